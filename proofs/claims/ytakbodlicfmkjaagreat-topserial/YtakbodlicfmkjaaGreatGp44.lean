/- Contracts and lemmas. -/
import Derived.Test.YtakbodlicfmkjaaGreatGp38
import Derived.Test.YtakbodlicfmkjaaGreatGp40
import Derived.Test.YtakbodlicfmkjaaGreatGp41
import Derived.Test.YtakbodlicfmkjaaGreatGp42
import Derived.Test.YtakbodlicfmkjaaGreatGp43
set_option maxHeartbeats 4000000
set_option maxRecDepth 100000
namespace Go.Proofs.YtakbodlicfmkjaaGreat
set_option linter.unusedSimpArgs false
set_option linter.unusedVariables false
namespace Kf
open Go.ChangeShapes Go.WideShapes Go.ChangeAt Go.RowKit Go.Lib
def n0:Oper:={dst:=some 9,op:=Op.move (Operand.tmp 0),type:=215,pos:= "task.go:53",after:=#[],guard:=none}
def n1:Oper:={dst:=some 10,op:=Op.nilCheck (Operand.tmp 9),type:=0,pos:= "task.go:53",after:=#[{on:=0,ground:=Ground.data}],guard:=none}
def n2:Oper:={dst:=some 11,op:=Op.fieldAddr 220 (Operand.tmp 10) 0,type:=0,pos:= "task.go:53",after:=#[{on:=1,ground:=Ground.data}],guard:=none}
def n3:Oper:={dst:=some 12,op:=Op.fieldAddr 217 (Operand.tmp 11) 0,type:=0,pos:= "task.go:53",after:=#[{on:=2,ground:=Ground.data}],guard:=none}
def n4:Oper:={dst:=some 13,op:=Op.load 78 (Operand.tmp 12),type:=78,pos:= "task.go:53",after:=#[{on:=3,ground:=Ground.data}],guard:=none}
def n5:Oper:={dst:=some 14,op:=Op.nilCheck (Operand.tmp 13),type:=0,pos:= "task.go:53",after:=#[{on:=4,ground:=Ground.data}],guard:=none}
def n6:Oper:={dst:=some 15,op:=Op.fieldAddr 77 (Operand.tmp 14) 2,type:=0,pos:= "task.go:53",after:=#[{on:=5,ground:=Ground.data}],guard:=none}
def n7:Oper:={dst:=some 16,op:=Op.load 65 (Operand.tmp 15),type:=65,pos:= "task.go:53",after:=#[{on:=6,ground:=Ground.data}],guard:=none}
def n8:Oper:={dst:=some 17,op:=Op.move (Operand.tmp 0),type:=215,pos:= "task.go:53",after:=#[],guard:=none}
def n9:Oper:={dst:=some 18,op:=Op.nilCheck (Operand.tmp 17),type:=0,pos:= "task.go:53",after:=#[{on:=8,ground:=Ground.data}],guard:=none}
def n10:Oper:={dst:=some 19,op:=Op.fieldAddr 220 (Operand.tmp 18) 0,type:=0,pos:= "task.go:53",after:=#[{on:=9,ground:=Ground.data}],guard:=none}
def n11:Oper:={dst:=some 20,op:=Op.fieldAddr 217 (Operand.tmp 19) 0,type:=0,pos:= "task.go:53",after:=#[{on:=10,ground:=Ground.data}],guard:=none}
def n12:Oper:={dst:=some 21,op:=Op.load 78 (Operand.tmp 20),type:=78,pos:= "task.go:53",after:=#[{on:=11,ground:=Ground.data}],guard:=none}
def n13:Oper:={dst:=some 22,op:=Op.nilCheck (Operand.tmp 21),type:=0,pos:= "task.go:53",after:=#[{on:=12,ground:=Ground.data}],guard:=none}
def n14:Oper:={dst:=some 23,op:=Op.fieldAddr 77 (Operand.tmp 22) 9,type:=0,pos:= "task.go:53",after:=#[{on:=13,ground:=Ground.data}],guard:=none}
def n15:Oper:={dst:=some 24,op:=Op.load 72 (Operand.tmp 23),type:=72,pos:= "task.go:53",after:=#[{on:=14,ground:=Ground.data}],guard:=none}
def n16:Oper:={dst:=some 25,op:=Op.call {callee:=Callee.value (Operand.func 23),args:=#[Operand.tmp 24],argTypes:=#[72]},type:=3,pos:= "task.go:53",after:=#[{on:=15,ground:=Ground.data}],guard:=none}
def n17:Oper:={dst:=some 26,op:=Op.call {callee:=Callee.value (Operand.func 256),args:=#[Operand.tmp 16,Operand.tmp 25],argTypes:=#[65,3]},type:=137,pos:= "task.go:53",after:=#[{on:=7,ground:=Ground.data},{on:=16,ground:=Ground.data},{on:=16,ground:=Ground.chain}],guard:=none}
def n18:Oper:={dst:=some 8,op:=Op.move (Operand.tmp 26),type:=137,pos:= "task.go:53",after:=#[{on:=17,ground:=Ground.data}],guard:=none}
def n19:Oper:={dst:=some 27,op:=Op.extract (Operand.tmp 8) 0,type:=59,pos:= "task.go:53",after:=#[{on:=18,ground:=Ground.data}],guard:=none}
def n20:Oper:={dst:=some 28,op:=Op.extract (Operand.tmp 8) 1,type:=36,pos:= "task.go:53",after:=#[{on:=18,ground:=Ground.data},{on:=22,ground:=Ground.gcOnly Departure.lateStores}],guard:=none}
def n21:Oper:={dst:=some 4,op:=Op.alloc 59,type:=0,pos:= "task.go:53",after:=#[],guard:=none}
def n22:Oper:={dst:=none,op:=Op.store 59 (Operand.tmp 4) (Operand.tmp 27),type:=0,pos:= "task.go:53",after:=#[{on:=21,ground:=Ground.data},{on:=19,ground:=Ground.data},{on:=17,ground:=Ground.chain},{on:=0,ground:=Ground.phase},{on:=1,ground:=Ground.phase},{on:=2,ground:=Ground.phase},{on:=3,ground:=Ground.phase},{on:=4,ground:=Ground.phase},{on:=5,ground:=Ground.phase},{on:=6,ground:=Ground.phase},{on:=7,ground:=Ground.phase},{on:=8,ground:=Ground.phase},{on:=9,ground:=Ground.phase},{on:=10,ground:=Ground.phase},{on:=11,ground:=Ground.phase},{on:=12,ground:=Ground.phase},{on:=13,ground:=Ground.phase},{on:=14,ground:=Ground.phase},{on:=15,ground:=Ground.phase},{on:=16,ground:=Ground.phase},{on:=17,ground:=Ground.phase},{on:=18,ground:=Ground.phase},{on:=19,ground:=Ground.phase},{on:=20,ground:=Ground.textOnly Departure.lateStores},{on:=21,ground:=Ground.phase}],guard:=none}
def n23:Oper:={dst:=some 5,op:=Op.assign (Operand.tmp 28),type:=36,pos:= "task.go:53",after:=#[{on:=20,ground:=Ground.data},{on:=22,ground:=Ground.chain},{on:=0,ground:=Ground.phase},{on:=1,ground:=Ground.phase},{on:=2,ground:=Ground.phase},{on:=3,ground:=Ground.phase},{on:=4,ground:=Ground.phase},{on:=5,ground:=Ground.phase},{on:=6,ground:=Ground.phase},{on:=7,ground:=Ground.phase},{on:=8,ground:=Ground.phase},{on:=9,ground:=Ground.phase},{on:=10,ground:=Ground.phase},{on:=11,ground:=Ground.phase},{on:=12,ground:=Ground.phase},{on:=13,ground:=Ground.phase},{on:=14,ground:=Ground.phase},{on:=15,ground:=Ground.phase},{on:=16,ground:=Ground.phase},{on:=17,ground:=Ground.phase},{on:=18,ground:=Ground.phase},{on:=19,ground:=Ground.phase},{on:=20,ground:=Ground.phase},{on:=21,ground:=Ground.phase},{on:=22,ground:=Ground.phase}],guard:=none}
def ops:Array Oper:=#[n0,n1,n2,n3,n4,n5,n6,n7,n8,n9,n10,n11,n12,n13,n14,n15,n16,n17,n18,n19,n20,n21,n22,n23]
def dl:List (Option Nat):=[some 9,some 10,some 11,some 12,some 13,some 14,some 15,some 16,some 17,some 18,some 19,some 20,some 21,some 22,some 23,some 24,some 25,some 26,some 8,some 27,some 28,some 4,none,some 5]
theorem dst:∀i,zah ops i=(dl[i]?).bind id
 |0=>rfl
 |1=>rfl
 |2=>rfl
 |3=>rfl
 |4=>rfl
 |5=>rfl
 |6=>rfl
 |7=>rfl
 |8=>rfl
 |9=>rfl
 |10=>rfl
 |11=>rfl
 |12=>rfl
 |13=>rfl
 |14=>rfl
 |15=>rfl
 |16=>rfl
 |17=>rfl
 |18=>rfl
 |19=>rfl
 |20=>rfl
 |21=>rfl
 |22=>rfl
 |23=>rfl
 |n+24=>by simp[zah,ops,dl]
theorem o7:∀(i:Nat)(o:Oper),ops[i]? = some o->(i=0/\o=n0)\/(i=1/\o=n1)\/(i=2/\o=n2)\/(i=3/\o=n3)\/(i=4/\o=n4)\/(i=5/\o=n5)\/(i=6/\o=n6)\/(i=7/\o=n7)\/(i=8/\o=n8)\/(i=9/\o=n9)\/(i=10/\o=n10)\/(i=11/\o=n11)\/(i=12/\o=n12)\/(i=13/\o=n13)\/(i=14/\o=n14)\/(i=15/\o=n15)\/(i=16/\o=n16)\/(i=17/\o=n17)\/(i=18/\o=n18)\/(i=19/\o=n19)\/(i=20/\o=n20)\/(i=21/\o=n21)\/(i=22/\o=n22)\/(i=23/\o=n23)
 |0,o,h=>by have h2:some n0=some o:=h;cases h2;simp
 |1,o,h=>by have h2:some n1=some o:=h;cases h2;simp
 |2,o,h=>by have h2:some n2=some o:=h;cases h2;simp
 |3,o,h=>by have h2:some n3=some o:=h;cases h2;simp
 |4,o,h=>by have h2:some n4=some o:=h;cases h2;simp
 |5,o,h=>by have h2:some n5=some o:=h;cases h2;simp
 |6,o,h=>by have h2:some n6=some o:=h;cases h2;simp
 |7,o,h=>by have h2:some n7=some o:=h;cases h2;simp
 |8,o,h=>by have h2:some n8=some o:=h;cases h2;simp
 |9,o,h=>by have h2:some n9=some o:=h;cases h2;simp
 |10,o,h=>by have h2:some n10=some o:=h;cases h2;simp
 |11,o,h=>by have h2:some n11=some o:=h;cases h2;simp
 |12,o,h=>by have h2:some n12=some o:=h;cases h2;simp
 |13,o,h=>by have h2:some n13=some o:=h;cases h2;simp
 |14,o,h=>by have h2:some n14=some o:=h;cases h2;simp
 |15,o,h=>by have h2:some n15=some o:=h;cases h2;simp
 |16,o,h=>by have h2:some n16=some o:=h;cases h2;simp
 |17,o,h=>by have h2:some n17=some o:=h;cases h2;simp
 |18,o,h=>by have h2:some n18=some o:=h;cases h2;simp
 |19,o,h=>by have h2:some n19=some o:=h;cases h2;simp
 |20,o,h=>by have h2:some n20=some o:=h;cases h2;simp
 |21,o,h=>by have h2:some n21=some o:=h;cases h2;simp
 |22,o,h=>by have h2:some n22=some o:=h;cases h2;simp
 |23,o,h=>by have h2:some n23=some o:=h;cases h2;simp
 |n+24,o,h=>by simp[ops]at h
theorem hN:∀i j d,zah ops i=some d->zah ops j=some d->i=j:=by
 intro i j d h1 h2;rw[dst]at h1 h2
 have hi:i<24:=by
  cases h:dl[i]? with
  |none=>rw[h]at h1;cases h1
  |some x=>exact (List.getElem?_eq_some_iff.1 h).1
 have hj:j<24:=by
  cases h:dl[j]? with
  |none=>rw[h]at h2;cases h2
  |some x=>exact (List.getElem?_eq_some_iff.1 h).1
 have key:∀i,i<24->∀j,j<24->((dl[i]?).bind id).isSome=true->(dl[i]?).bind id=(dl[j]?).bind id->i=j:=by decide
 exact key i hi j hj (by rw[h1];rfl) (h1.trans h2.symm)
theorem hlex:∀(i:Nat)(o:Oper),ops[i]? = some o->∀e∈o.after,Region.binds .any e=true->e.on<i:=by
 intro i o h e he hb;have key:∀(k:Nat)(p:Oper),(p.after.all fun e=> !Region.binds .any e||decide (e.on<k))=true->∀e∈p.after,Region.binds .any e=true->e.on<k:=by
  intro k p hp e he hb;rw[Array.all_eq_true_iff_forall_mem]at hp
  have:=hp e he;simpa[hb]using this
 rcases o7 i o h with⟨rfl,rfl⟩|⟨rfl,rfl⟩|⟨rfl,rfl⟩|⟨rfl,rfl⟩|⟨rfl,rfl⟩|⟨rfl,rfl⟩|⟨rfl,rfl⟩|⟨rfl,rfl⟩|⟨rfl,rfl⟩|⟨rfl,rfl⟩|⟨rfl,rfl⟩|⟨rfl,rfl⟩|⟨rfl,rfl⟩|⟨rfl,rfl⟩|⟨rfl,rfl⟩|⟨rfl,rfl⟩|⟨rfl,rfl⟩|⟨rfl,rfl⟩|⟨rfl,rfl⟩|⟨rfl,rfl⟩|⟨rfl,rfl⟩|⟨rfl,rfl⟩|⟨rfl,rfl⟩|⟨rfl,rfl⟩
 .exact key 0 n0 (by simp[n0,Region.binds]) e he hb
 .exact key 1 n1 (by simp[n1,Region.binds]) e he hb
 .exact key 2 n2 (by simp[n2,Region.binds]) e he hb
 .exact key 3 n3 (by simp[n3,Region.binds]) e he hb
 .exact key 4 n4 (by simp[n4,Region.binds]) e he hb
 .exact key 5 n5 (by simp[n5,Region.binds]) e he hb
 .exact key 6 n6 (by simp[n6,Region.binds]) e he hb
 .exact key 7 n7 (by simp[n7,Region.binds]) e he hb
 .exact key 8 n8 (by simp[n8,Region.binds]) e he hb
 .exact key 9 n9 (by simp[n9,Region.binds]) e he hb
 .exact key 10 n10 (by simp[n10,Region.binds]) e he hb
 .exact key 11 n11 (by simp[n11,Region.binds]) e he hb
 .exact key 12 n12 (by simp[n12,Region.binds]) e he hb
 .exact key 13 n13 (by simp[n13,Region.binds]) e he hb
 .exact key 14 n14 (by simp[n14,Region.binds]) e he hb
 .exact key 15 n15 (by simp[n15,Region.binds]) e he hb
 .exact key 16 n16 (by simp[n16,Region.binds]) e he hb
 .exact key 17 n17 (by simp[n17,Region.binds]) e he hb
 .exact key 18 n18 (by simp[n18,Region.binds]) e he hb
 .exact key 19 n19 (by simp[n19,Region.binds]) e he hb
 .exact key 20 n20 (by simp[n20,Region.binds]) e he hb
 .exact key 21 n21 (by simp[n21,Region.binds]) e he hb
 .exact key 22 n22 (by simp[n22,Region.binds]) e he hb
 exact key 23 n23 (by simp[n23,Region.binds]) e he hb
theorem hg{a0:Act}(hz:a0.tmps.size=66):∀(i:Nat)(o:Oper),ops[i]? = some o->o.guard=none/\∀d,o.dst=some d->d<a0.tmps.size:=by
 intro i o h;rw[hz];rcases o7 i o h with⟨rfl,rfl⟩|⟨rfl,rfl⟩|⟨rfl,rfl⟩|⟨rfl,rfl⟩|⟨rfl,rfl⟩|⟨rfl,rfl⟩|⟨rfl,rfl⟩|⟨rfl,rfl⟩|⟨rfl,rfl⟩|⟨rfl,rfl⟩|⟨rfl,rfl⟩|⟨rfl,rfl⟩|⟨rfl,rfl⟩|⟨rfl,rfl⟩|⟨rfl,rfl⟩|⟨rfl,rfl⟩|⟨rfl,rfl⟩|⟨rfl,rfl⟩|⟨rfl,rfl⟩|⟨rfl,rfl⟩|⟨rfl,rfl⟩|⟨rfl,rfl⟩|⟨rfl,rfl⟩|⟨rfl,rfl⟩
 .exact⟨rfl,fun d hd=>by cases hd;decide⟩
 .exact⟨rfl,fun d hd=>by cases hd;decide⟩
 .exact⟨rfl,fun d hd=>by cases hd;decide⟩
 .exact⟨rfl,fun d hd=>by cases hd;decide⟩
 .exact⟨rfl,fun d hd=>by cases hd;decide⟩
 .exact⟨rfl,fun d hd=>by cases hd;decide⟩
 .exact⟨rfl,fun d hd=>by cases hd;decide⟩
 .exact⟨rfl,fun d hd=>by cases hd;decide⟩
 .exact⟨rfl,fun d hd=>by cases hd;decide⟩
 .exact⟨rfl,fun d hd=>by cases hd;decide⟩
 .exact⟨rfl,fun d hd=>by cases hd;decide⟩
 .exact⟨rfl,fun d hd=>by cases hd;decide⟩
 .exact⟨rfl,fun d hd=>by cases hd;decide⟩
 .exact⟨rfl,fun d hd=>by cases hd;decide⟩
 .exact⟨rfl,fun d hd=>by cases hd;decide⟩
 .exact⟨rfl,fun d hd=>by cases hd;decide⟩
 .exact⟨rfl,fun d hd=>by cases hd;decide⟩
 .exact⟨rfl,fun d hd=>by cases hd;decide⟩
 .exact⟨rfl,fun d hd=>by cases hd;decide⟩
 .exact⟨rfl,fun d hd=>by cases hd;decide⟩
 .exact⟨rfl,fun d hd=>by cases hd;decide⟩
 .exact⟨rfl,fun d hd=>by cases hd;decide⟩
 .exact⟨rfl,fun d hd=>by cases hd⟩
 exact⟨rfl,fun d hd=>by cases hd;decide⟩
theorem clD(L:Nat->Bool)(hcl:∀j k,L j=true->dep ops j k=true->L k=true)(h:L 17=true):∀i,i<17->L i=true:=by
 have h16:L 16=true:=hcl 17 16 h (by simp[dep,ops,n17,Region.binds]);have h15:L 15=true:=hcl 16 15 h16 (by simp[dep,ops,n16,Region.binds]);have h14:L 14=true:=hcl 15 14 h15 (by simp[dep,ops,n15,Region.binds]);have h13:L 13=true:=hcl 14 13 h14 (by simp[dep,ops,n14,Region.binds]);have h12:L 12=true:=hcl 13 12 h13 (by simp[dep,ops,n13,Region.binds]);have h11:L 11=true:=hcl 12 11 h12 (by simp[dep,ops,n12,Region.binds]);have h10:L 10=true:=hcl 11 10 h11 (by simp[dep,ops,n11,Region.binds]);have h9:L 9=true:=hcl 10 9 h10 (by simp[dep,ops,n10,Region.binds]);have h8:L 8=true:=hcl 9 8 h9 (by simp[dep,ops,n9,Region.binds]);have h7:L 7=true:=hcl 17 7 h (by simp[dep,ops,n17,Region.binds]);have h6:L 6=true:=hcl 7 6 h7 (by simp[dep,ops,n7,Region.binds]);have h5:L 5=true:=hcl 6 5 h6 (by simp[dep,ops,n6,Region.binds]);have h4:L 4=true:=hcl 5 4 h5 (by simp[dep,ops,n5,Region.binds]);have h3:L 3=true:=hcl 4 3 h4 (by simp[dep,ops,n4,Region.binds]);have h2:L 2=true:=hcl 3 2 h3 (by simp[dep,ops,n3,Region.binds]);have h1:L 1=true:=hcl 2 1 h2 (by simp[dep,ops,n2,Region.binds]);have h0:L 0=true:=hcl 1 0 h1 (by simp[dep,ops,n1,Region.binds]);intro i hi
 match i,hi with
 |0,_=>exact h0
 |1,_=>exact h1
 |2,_=>exact h2
 |3,_=>exact h3
 |4,_=>exact h4
 |5,_=>exact h5
 |6,_=>exact h6
 |7,_=>exact h7
 |8,_=>exact h8
 |9,_=>exact h9
 |10,_=>exact h10
 |11,_=>exact h11
 |12,_=>exact h12
 |13,_=>exact h13
 |14,_=>exact h14
 |15,_=>exact h15
 |16,_=>exact h16
 |i+17,hi=>omega
def val(kd mb fb gb B K:Nat)(ma n:Int)(x:Nat):Nat->Value
 |0=> .pointer (some ⟨kd,0,none⟩)
 |1=> .pointer (some ⟨kd,0,none⟩)
 |2=> .pointer (some ⟨kd,0,none⟩)
 |3=> .pointer (some ⟨kd,0,none⟩)
 |4=> .pointer (some ⟨mb,0,none⟩)
 |5=> .pointer (some ⟨mb,0,none⟩)
 |6=> .pointer (some ⟨mb,5,none⟩)
 |7=> .pointer (some ⟨fb,0,none⟩)
 |8=> .pointer (some ⟨kd,0,none⟩)
 |9=> .pointer (some ⟨kd,0,none⟩)
 |10=> .pointer (some ⟨kd,0,none⟩)
 |11=> .pointer (some ⟨kd,0,none⟩)
 |12=> .pointer (some ⟨mb,0,none⟩)
 |13=> .pointer (some ⟨mb,0,none⟩)
 |14=> .pointer (some ⟨mb,12,none⟩)
 |15=> .pointer (some ⟨gb,0,none⟩)
 |16=> .int .i64 ma
 |17=> .tuple #[.agg #[.int .i64 n,.slice (some ⟨B,0,none⟩) K K],.int .i64 0]
 |18=> .tuple #[.agg #[.int .i64 n,.slice (some ⟨B,0,none⟩) K K],.int .i64 0]
 |19=> .agg #[.int .i64 n,.slice (some ⟨B,0,none⟩) K K]
 |20=> .int .i64 0
 |21=> .pointer (some ⟨x,0,none⟩)
 |22=>undef
 |23=> .int .i64 0
 |_=>undef
def pairs(kd mb fb gb B K:Nat)(ma n:Int)(x:Nat):List (Nat×Value):=
 [(9,.pointer (some ⟨kd,0,none⟩)),(10,.pointer (some ⟨kd,0,none⟩)),(11,.pointer (some ⟨kd,0,none⟩)),(12,.pointer (some ⟨kd,0,none⟩)),(13,.pointer (some ⟨mb,0,none⟩)),(14,.pointer (some ⟨mb,0,none⟩)),(15,.pointer (some ⟨mb,5,none⟩)),(16,.pointer (some ⟨fb,0,none⟩)),(17,.pointer (some ⟨kd,0,none⟩)),(18,.pointer (some ⟨kd,0,none⟩)),(19,.pointer (some ⟨kd,0,none⟩)),(20,.pointer (some ⟨kd,0,none⟩)),(21,.pointer (some ⟨mb,0,none⟩)),(22,.pointer (some ⟨mb,0,none⟩)),(23,.pointer (some ⟨mb,12,none⟩)),(24,.pointer (some ⟨gb,0,none⟩)),(25,.int .i64 ma),(26,.tuple #[.agg #[.int .i64 n,.slice (some ⟨B,0,none⟩) K K],.int .i64 0]),(8,.tuple #[.agg #[.int .i64 n,.slice (some ⟨B,0,none⟩) K K],.int .i64 0]),(27,.agg #[.int .i64 n,.slice (some ⟨B,0,none⟩) K K]),(28,.int .i64 0),(4,.pointer (some ⟨x,0,none⟩)),(5,.int .i64 0)]
theorem hD(kd mb fb gb B K:Nat)(ma n:Int)(x:Nat):((pairs kd mb fb gb B K ma n x).map (·.1)).Nodup/\(∀p∈pairs kd mb fb gb B K ma n x,∃i,zah ops i=some p.1/\p.2=val kd mb fb gb B K ma n x i)/\∀i d,zah ops i=some d->(d,val kd mb fb gb B K ma n x i)∈pairs kd mb fb gb B K ma n x:=by
 refine⟨?_,fun p hp=> ?_,fun i d hd=> ?_⟩
 .show ([9,10,11,12,13,14,15,16,17,18,19,20,21,22,23,24,25,26,8,27,28,4,5]:List Nat).Nodup;decide
 .simp only[pairs,List.mem_cons,List.not_mem_nil,or_false]at hp;rcases hp with rfl|rfl|rfl|rfl|rfl|rfl|rfl|rfl|rfl|rfl|rfl|rfl|rfl|rfl|rfl|rfl|rfl|rfl|rfl|rfl|rfl|rfl|rfl
  .exact⟨0,rfl,rfl⟩
  .exact⟨1,rfl,rfl⟩
  .exact⟨2,rfl,rfl⟩
  .exact⟨3,rfl,rfl⟩
  .exact⟨4,rfl,rfl⟩
  .exact⟨5,rfl,rfl⟩
  .exact⟨6,rfl,rfl⟩
  .exact⟨7,rfl,rfl⟩
  .exact⟨8,rfl,rfl⟩
  .exact⟨9,rfl,rfl⟩
  .exact⟨10,rfl,rfl⟩
  .exact⟨11,rfl,rfl⟩
  .exact⟨12,rfl,rfl⟩
  .exact⟨13,rfl,rfl⟩
  .exact⟨14,rfl,rfl⟩
  .exact⟨15,rfl,rfl⟩
  .exact⟨16,rfl,rfl⟩
  .exact⟨17,rfl,rfl⟩
  .exact⟨18,rfl,rfl⟩
  .exact⟨19,rfl,rfl⟩
  .exact⟨20,rfl,rfl⟩
  .exact⟨21,rfl,rfl⟩
  exact⟨23,rfl,rfl⟩
 have hi:∃o,ops[i]? = some o:=by
  unfold zah at hd;cases ho:ops[i]? with
  |none=>rw[ho]at hd;cases hd
  |some o=>exact⟨o,rfl⟩
 obtain⟨o,ho⟩:=hi;rcases o7 i o ho with⟨rfl,rfl⟩|⟨rfl,rfl⟩|⟨rfl,rfl⟩|⟨rfl,rfl⟩|⟨rfl,rfl⟩|⟨rfl,rfl⟩|⟨rfl,rfl⟩|⟨rfl,rfl⟩|⟨rfl,rfl⟩|⟨rfl,rfl⟩|⟨rfl,rfl⟩|⟨rfl,rfl⟩|⟨rfl,rfl⟩|⟨rfl,rfl⟩|⟨rfl,rfl⟩|⟨rfl,rfl⟩|⟨rfl,rfl⟩|⟨rfl,rfl⟩|⟨rfl,rfl⟩|⟨rfl,rfl⟩|⟨rfl,rfl⟩|⟨rfl,rfl⟩|⟨rfl,rfl⟩|⟨rfl,rfl⟩
 .have e:d=9:=by have:some 9=some d:=hd;cases this;rfl
  subst e;simp[pairs,val]
 .have e:d=10:=by have:some 10=some d:=hd;cases this;rfl
  subst e;simp[pairs,val]
 .have e:d=11:=by have:some 11=some d:=hd;cases this;rfl
  subst e;simp[pairs,val]
 .have e:d=12:=by have:some 12=some d:=hd;cases this;rfl
  subst e;simp[pairs,val]
 .have e:d=13:=by have:some 13=some d:=hd;cases this;rfl
  subst e;simp[pairs,val]
 .have e:d=14:=by have:some 14=some d:=hd;cases this;rfl
  subst e;simp[pairs,val]
 .have e:d=15:=by have:some 15=some d:=hd;cases this;rfl
  subst e;simp[pairs,val]
 .have e:d=16:=by have:some 16=some d:=hd;cases this;rfl
  subst e;simp[pairs,val]
 .have e:d=17:=by have:some 17=some d:=hd;cases this;rfl
  subst e;simp[pairs,val]
 .have e:d=18:=by have:some 18=some d:=hd;cases this;rfl
  subst e;simp[pairs,val]
 .have e:d=19:=by have:some 19=some d:=hd;cases this;rfl
  subst e;simp[pairs,val]
 .have e:d=20:=by have:some 20=some d:=hd;cases this;rfl
  subst e;simp[pairs,val]
 .have e:d=21:=by have:some 21=some d:=hd;cases this;rfl
  subst e;simp[pairs,val]
 .have e:d=22:=by have:some 22=some d:=hd;cases this;rfl
  subst e;simp[pairs,val]
 .have e:d=23:=by have:some 23=some d:=hd;cases this;rfl
  subst e;simp[pairs,val]
 .have e:d=24:=by have:some 24=some d:=hd;cases this;rfl
  subst e;simp[pairs,val]
 .have e:d=25:=by have:some 25=some d:=hd;cases this;rfl
  subst e;simp[pairs,val]
 .have e:d=26:=by have:some 26=some d:=hd;cases this;rfl
  subst e;simp[pairs,val]
 .have e:d=8:=by have:some 8=some d:=hd;cases this;rfl
  subst e;simp[pairs,val]
 .have e:d=27:=by have:some 27=some d:=hd;cases this;rfl
  subst e;simp[pairs,val]
 .have e:d=28:=by have:some 28=some d:=hd;cases this;rfl
  subst e;simp[pairs,val]
 .have e:d=4:=by have:some 4=some d:=hd;cases this;rfl
  subst e;simp[pairs,val]
 .cases hd
 have e:d=5:=by have:some 5=some d:=hd;cases this;rfl
 subst e;simp[pairs,val]
section
variable(ρ:Operand->Value)(w:World){kd mb fb gb B K x:Nat}{ma n:Int}
theorem r0(h0:ρ (.tmp 0)=.pointer (some ⟨kd,0,none⟩)):(execOp ρ n0).run Tryz.prog w=.ok (.value (.pointer (some ⟨kd,0,none⟩))) w:=by
 unfold n0
 go_simp
theorem r1(h9:ρ (.tmp 9)=.pointer (some ⟨kd,0,none⟩)):(execOp ρ n1).run Tryz.prog w=.ok (.value (.pointer (some ⟨kd,0,none⟩))) w:=by
 unfold n1
 go_simp
theorem r2(h10:ρ (.tmp 10)=.pointer (some ⟨kd,0,none⟩)):(execOp ρ n2).run Tryz.prog w=.ok (.value (.pointer (some ⟨kd,0,none⟩))) w:=by
 unfold n2
 go_simp
theorem r3(h11:ρ (.tmp 11)=.pointer (some ⟨kd,0,none⟩)):(execOp ρ n3).run Tryz.prog w=.ok (.value (.pointer (some ⟨kd,0,none⟩))) w:=by
 unfold n3
 go_simp
theorem r4(h12:ρ (.tmp 12)=.pointer (some ⟨kd,0,none⟩))(c0:w.cell? ⟨kd,0,none⟩=some (.pointer (some ⟨mb,0,none⟩))):(execOp ρ n4).run Tryz.prog w=.ok (.value (.pointer (some ⟨mb,0,none⟩))) w:=by
 unfold n4
 go_simp
theorem r5(h13:ρ (.tmp 13)=.pointer (some ⟨mb,0,none⟩)):(execOp ρ n5).run Tryz.prog w=.ok (.value (.pointer (some ⟨mb,0,none⟩))) w:=by
 unfold n5
 go_simp
theorem r6(h14:ρ (.tmp 14)=.pointer (some ⟨mb,0,none⟩)):(execOp ρ n6).run Tryz.prog w=.ok (.value (.pointer (some ⟨mb,5,none⟩))) w:=by
 unfold n6
 go_simp
theorem r7(h15:ρ (.tmp 15)=.pointer (some ⟨mb,5,none⟩))(c0:w.cell? ⟨mb,5,none⟩=some (.pointer (some ⟨fb,0,none⟩))):(execOp ρ n7).run Tryz.prog w=.ok (.value (.pointer (some ⟨fb,0,none⟩))) w:=by
 unfold n7
 go_simp
theorem r8(h0:ρ (.tmp 0)=.pointer (some ⟨kd,0,none⟩)):(execOp ρ n8).run Tryz.prog w=.ok (.value (.pointer (some ⟨kd,0,none⟩))) w:=by
 unfold n8
 go_simp
theorem r9(h17:ρ (.tmp 17)=.pointer (some ⟨kd,0,none⟩)):(execOp ρ n9).run Tryz.prog w=.ok (.value (.pointer (some ⟨kd,0,none⟩))) w:=by
 unfold n9
 go_simp
theorem r10(h18:ρ (.tmp 18)=.pointer (some ⟨kd,0,none⟩)):(execOp ρ n10).run Tryz.prog w=.ok (.value (.pointer (some ⟨kd,0,none⟩))) w:=by
 unfold n10
 go_simp
theorem r11(h19:ρ (.tmp 19)=.pointer (some ⟨kd,0,none⟩)):(execOp ρ n11).run Tryz.prog w=.ok (.value (.pointer (some ⟨kd,0,none⟩))) w:=by
 unfold n11
 go_simp
theorem r12(h20:ρ (.tmp 20)=.pointer (some ⟨kd,0,none⟩))(c0:w.cell? ⟨kd,0,none⟩=some (.pointer (some ⟨mb,0,none⟩))):(execOp ρ n12).run Tryz.prog w=.ok (.value (.pointer (some ⟨mb,0,none⟩))) w:=by
 unfold n12
 go_simp
theorem r13(h21:ρ (.tmp 21)=.pointer (some ⟨mb,0,none⟩)):(execOp ρ n13).run Tryz.prog w=.ok (.value (.pointer (some ⟨mb,0,none⟩))) w:=by
 unfold n13
 go_simp
theorem r14(h22:ρ (.tmp 22)=.pointer (some ⟨mb,0,none⟩)):(execOp ρ n14).run Tryz.prog w=.ok (.value (.pointer (some ⟨mb,12,none⟩))) w:=by
 unfold n14
 go_simp
theorem r15(h23:ρ (.tmp 23)=.pointer (some ⟨mb,12,none⟩))(c0:w.cell? ⟨mb,12,none⟩=some (.pointer (some ⟨gb,0,none⟩))):(execOp ρ n15).run Tryz.prog w=.ok (.value (.pointer (some ⟨gb,0,none⟩))) w:=by
 unfold n15
 go_simp
theorem r18(h26:ρ (.tmp 26)=.tuple #[.agg #[.int .i64 n,.slice (some ⟨B,0,none⟩) K K],.int .i64 0]):(execOp ρ n18).run Tryz.prog w=.ok (.value (.tuple #[.agg #[.int .i64 n,.slice (some ⟨B,0,none⟩) K K],.int .i64 0])) w:=by
 unfold n18
 go_simp
theorem r19(h8:ρ (.tmp 8)=.tuple #[.agg #[.int .i64 n,.slice (some ⟨B,0,none⟩) K K],.int .i64 0]):(execOp ρ n19).run Tryz.prog w=.ok (.value (.agg #[.int .i64 n,.slice (some ⟨B,0,none⟩) K K])) w:=by
 unfold n19
 go_simp
theorem r20(h8:ρ (.tmp 8)=.tuple #[.agg #[.int .i64 n,.slice (some ⟨B,0,none⟩) K K],.int .i64 0]):(execOp ρ n20).run Tryz.prog w=.ok (.value (.int .i64 0)) w:=by
 unfold n20
 go_simp
theorem r23(h28:ρ (.tmp 28)=.int .i64 0):(execOp ρ n23).run Tryz.prog w=.ok (.value (.int .i64 0)) w:=by
 unfold n23
 go_simp
theorem rM(hf:ρ (.func 23)=.func (.func 23) #[] #[])(h:ρ (.tmp 24)=.pointer (some ⟨gb,0,none⟩)):(execOp ρ n16).run Tryz.prog w=.ok (.enter 23 #[.pointer (some ⟨gb,0,none⟩)]) w:=by
 unfold n16
 go_simp
theorem rD(hf:ρ (.func 256)=.func (.func 256) #[] #[])(h:ρ (.tmp 16)=.pointer (some ⟨fb,0,none⟩))(h2:ρ (.tmp 25)=.int .i64 ma):(execOp ρ n17).run Tryz.prog w=.ok (.enter 256 #[.pointer (some ⟨fb,0,none⟩),.int .i64 ma]) w:=by
 unfold n17
 go_simp
theorem rA:(execOp ρ n21).run Tryz.prog w=.ok (.value (.pointer (some ⟨w.heap.size,0,none⟩))) (w.alloc (.cells #[.int .i64 0,.slice none 0 0] 59)):=by
 unfold n21
 go_simp
theorem rS(h1:ρ (.tmp 4)=.pointer (some ⟨x,0,none⟩))(h2:ρ (.tmp 27)=.agg #[.int .i64 n,.slice (some ⟨B,0,none⟩) K K])(hb:w.heap[x]? = some (.cells #[.int .i64 0,.slice none 0 0] 59 (0,0))):(execOp ρ n22).run Tryz.prog w=.ok .skip ((w.setCell ⟨x,0,none⟩ (.int .i64 n)).setCell ⟨x,1,none⟩ (.slice (some ⟨B,0,none⟩) K K)):=by
 have c0:w.cell? ⟨x,0,none⟩=some (.int .i64 0):=by rw[crw hb];rfl
 have c1:w.cell? ⟨x,1,none⟩=some (.slice none 0 0):=by rw[crw hb];rfl
 have f0:∀j,w.frozen? ⟨x,j,none⟩=false:=fun j=>by simp[World.frozen?,hb]
 unfold n22
 go_simp
end
def Wd(w1:World)(B K:Nat)(n:Int)(J0 J1:World->Prop)(x:Nat)(L:Nat->Bool)(w:World):Prop:=
 (L 22=false/\w1.heap.size<=w.heap.size/\(L 17=false->J0 w)/\(L 17=true->J1 w)/\(L 21=true->w1.heap.size<=x/\w.heap[x]? = some (.cells #[.int .i64 0,.slice none 0 0] 59 (0,0)))) \/
 (L 22=true/\∃w',J1 w'/\w1.heap.size<=x/\w'.heap[x]? = some (.cells #[.int .i64 0,.slice none 0 0] 59 (0,0))/\w=(w'.setCell ⟨x,0,none⟩ (.int .i64 n)).setCell ⟨x,1,none⟩ (.slice (some ⟨B,0,none⟩) K K))
theorem Wd.read{w1 w:World}{B K x i:Nat}{n:Int}{J0 J1:World->Prop}{L:Nat->Bool}(h:Wd w1 B K n J0 J1 x L w)(h1:i≠17)(h2:i≠21)(h3:i≠22):Wd w1 B K n J0 J1 x (updB L i) w:=by
 unfold Wd;rw[zcn L (Ne.symm h1),zcn L (Ne.symm h2),zcn L (Ne.symm h3)];exact h
theorem reg{Q:Exit->Act->World->Prop}{a0:Act}{w1:World}{id:Nat}{kd mb fb gb B K:Nat}{ma n:Int}{J0 J1:World->Prop}(hz:a0.tmps.size=66)(t0:env a0 0=.pointer (some ⟨kd,0,none⟩))(q0:∀w w',J0 w->Fr [] w w'->J0 w')(q1:∀w w',J1 w->Fr [] w w'->J1 w')(h0:J0 w1)(hc:∀w,J0 w->w.cell? ⟨kd,0,none⟩=some (.pointer (some ⟨mb,0,none⟩))/\w.cell? ⟨mb,5,none⟩=some (.pointer (some ⟨fb,0,none⟩))/\w.cell? ⟨mb,12,none⟩=some (.pointer (some ⟨gb,0,none⟩)))(hM:∀w,J0 w->Calls Tryz.prog 23 #[.pointer (some ⟨gb,0,none⟩)] w fun e w'=>e=.returned (.int .i64 ma)/\Fr [] w w')(hDi:∀w,J0 w->Calls Tryz.prog 256 #[.pointer (some ⟨fb,0,none⟩),.int .i64 ma] w fun e w'=>e=.returned (.tuple #[.agg #[.int .i64 n,.slice (some ⟨B,0,none⟩) K K],.int .i64 0])/\J1 w'/\w.heap.size<=w'.heap.size/\∀x o,w1.heap.size<=x->w.heap[x]? = some o->w'.heap[x]? = some o)(hend:∀x w',J1 w'->w1.heap.size<=x->w'.heap[x]? = some (.cells #[.int .i64 0,.slice none 0 0] 59 (0,0))->Q .normal (puts a0 (pairs kd mb fb gb B K ma n x)) ((w'.setCell ⟨x,0,none⟩ (.int .i64 n)).setCell ⟨x,1,none⟩ (.slice (some ⟨B,0,none⟩) K K))) :
  (Code.region id ops true).wp Tryz.prog Q a0 w1:=by
 refine znn (val:=val kd mb fb gb B K ma n) (W:=Wd w1 B K n J0 J1) (pairs kd mb fb gb B K ma n) 0 (by kernel_rfl) hN (hg hz) ?_ hlex (hD kd mb fb gb B K ma n) (Or.inl ⟨rfl,(Fr.drew [] w1).size,fun _=>q0 _ _ h0 (Fr.drew [] w1),fun h=>(by cases h),fun h=>(by cases h)⟩) ?_
 .intro ii o ho x L a w hLi hdl hcl hdv hsame hza hW;have hno:∀t,some t∉dl->env a t=env a0 t:=fun t ht=>hsame t (fun j hj=>by
   rw[dst]at hj
   cases h:dl[j]? with
   |none=>rw[h]at hj;cases hj
   |some y=>rw[h]at hj;exact ht (List.mem_of_getElem? (by rw[h];exact congrArg some hj)))
  have s0:env a 0=.pointer (some ⟨kd,0,none⟩):=(hno 0 (by decide)).trans t0;rcases o7 ii o ho with⟨rfl,rfl⟩|⟨rfl,rfl⟩|⟨rfl,rfl⟩|⟨rfl,rfl⟩|⟨rfl,rfl⟩|⟨rfl,rfl⟩|⟨rfl,rfl⟩|⟨rfl,rfl⟩|⟨rfl,rfl⟩|⟨rfl,rfl⟩|⟨rfl,rfl⟩|⟨rfl,rfl⟩|⟨rfl,rfl⟩|⟨rfl,rfl⟩|⟨rfl,rfl⟩|⟨rfl,rfl⟩|⟨rfl,rfl⟩|⟨rfl,rfl⟩|⟨rfl,rfl⟩|⟨rfl,rfl⟩|⟨rfl,rfl⟩|⟨rfl,rfl⟩|⟨rfl,rfl⟩|⟨rfl,rfl⟩
  .exact zal (r0 _ _ s0) (hW.read (by decide) (by decide) (by decide))
  .exact zal (r1 _ _ (hdv 0 9 (by simp[dep,ops,n1,Region.binds]) rfl)) (hW.read (by decide) (by decide) (by decide))
  .exact zal (r2 _ _ (hdv 1 10 (by simp[dep,ops,n2,Region.binds]) rfl)) (hW.read (by decide) (by decide) (by decide))
  .exact zal (r3 _ _ (hdv 2 11 (by simp[dep,ops,n3,Region.binds]) rfl)) (hW.read (by decide) (by decide) (by decide))
  .have hDn:L 17=false:=by
    cases h:L 17 with
    |false=>rfl
    |true=>have:=clD L hcl h 4 (by decide);rw[hLi]at this;cases this
   have hS:L 22=false:=by
    cases h:L 22 with
    |false=>rfl
    |true=>have:=hcl 22 4 h (by simp[dep,ops,n22,Region.binds]);rw[hLi]at this;cases this
   obtain⟨_,hsz,hJ0,hJ1,hAx⟩:L 22=false/\w1.heap.size<=w.heap.size/\(L 17=false->J0 w)/\(L 17=true->J1 w)/\(L 21=true->w1.heap.size<=x/\w.heap[x]? = some (.cells #[.int .i64 0,.slice none 0 0] 59 (0,0))):=by
    rcases hW with h|h
    .exact h
    rw[hS]at h;cases h.1
   exact zal (r4 _ _ (hdv 3 12 (by simp[dep,ops,n4,Region.binds]) rfl) (hc w (hJ0 hDn)).1) (hW.read (by decide) (by decide) (by decide))
  .exact zal (r5 _ _ (hdv 4 13 (by simp[dep,ops,n5,Region.binds]) rfl)) (hW.read (by decide) (by decide) (by decide))
  .exact zal (r6 _ _ (hdv 5 14 (by simp[dep,ops,n6,Region.binds]) rfl)) (hW.read (by decide) (by decide) (by decide))
  .have hDn:L 17=false:=by
    cases h:L 17 with
    |false=>rfl
    |true=>have:=clD L hcl h 7 (by decide);rw[hLi]at this;cases this
   have hS:L 22=false:=by
    cases h:L 22 with
    |false=>rfl
    |true=>have:=hcl 22 7 h (by simp[dep,ops,n22,Region.binds]);rw[hLi]at this;cases this
   obtain⟨_,hsz,hJ0,hJ1,hAx⟩:L 22=false/\w1.heap.size<=w.heap.size/\(L 17=false->J0 w)/\(L 17=true->J1 w)/\(L 21=true->w1.heap.size<=x/\w.heap[x]? = some (.cells #[.int .i64 0,.slice none 0 0] 59 (0,0))):=by
    rcases hW with h|h
    .exact h
    rw[hS]at h;cases h.1
   exact zal (r7 _ _ (hdv 6 15 (by simp[dep,ops,n7,Region.binds]) rfl) (hc w (hJ0 hDn)).2.1) (hW.read (by decide) (by decide) (by decide))
  .exact zal (r8 _ _ s0) (hW.read (by decide) (by decide) (by decide))
  .exact zal (r9 _ _ (hdv 8 17 (by simp[dep,ops,n9,Region.binds]) rfl)) (hW.read (by decide) (by decide) (by decide))
  .exact zal (r10 _ _ (hdv 9 18 (by simp[dep,ops,n10,Region.binds]) rfl)) (hW.read (by decide) (by decide) (by decide))
  .exact zal (r11 _ _ (hdv 10 19 (by simp[dep,ops,n11,Region.binds]) rfl)) (hW.read (by decide) (by decide) (by decide))
  .have hDn:L 17=false:=by
    cases h:L 17 with
    |false=>rfl
    |true=>have:=clD L hcl h 12 (by decide);rw[hLi]at this;cases this
   have hS:L 22=false:=by
    cases h:L 22 with
    |false=>rfl
    |true=>have:=hcl 22 12 h (by simp[dep,ops,n22,Region.binds]);rw[hLi]at this;cases this
   obtain⟨_,hsz,hJ0,hJ1,hAx⟩:L 22=false/\w1.heap.size<=w.heap.size/\(L 17=false->J0 w)/\(L 17=true->J1 w)/\(L 21=true->w1.heap.size<=x/\w.heap[x]? = some (.cells #[.int .i64 0,.slice none 0 0] 59 (0,0))):=by
    rcases hW with h|h
    .exact h
    rw[hS]at h;cases h.1
   exact zal (r12 _ _ (hdv 11 20 (by simp[dep,ops,n12,Region.binds]) rfl) (hc w (hJ0 hDn)).1) (hW.read (by decide) (by decide) (by decide))
  .exact zal (r13 _ _ (hdv 12 21 (by simp[dep,ops,n13,Region.binds]) rfl)) (hW.read (by decide) (by decide) (by decide))
  .exact zal (r14 _ _ (hdv 13 22 (by simp[dep,ops,n14,Region.binds]) rfl)) (hW.read (by decide) (by decide) (by decide))
  .have hDn:L 17=false:=by
    cases h:L 17 with
    |false=>rfl
    |true=>have:=clD L hcl h 15 (by decide);rw[hLi]at this;cases this
   have hS:L 22=false:=by
    cases h:L 22 with
    |false=>rfl
    |true=>have:=hcl 22 15 h (by simp[dep,ops,n22,Region.binds]);rw[hLi]at this;cases this
   obtain⟨_,hsz,hJ0,hJ1,hAx⟩:L 22=false/\w1.heap.size<=w.heap.size/\(L 17=false->J0 w)/\(L 17=true->J1 w)/\(L 21=true->w1.heap.size<=x/\w.heap[x]? = some (.cells #[.int .i64 0,.slice none 0 0] 59 (0,0))):=by
    rcases hW with h|h
    .exact h
    rw[hS]at h;cases h.1
   exact zal (r15 _ _ (hdv 14 23 (by simp[dep,ops,n15,Region.binds]) rfl) (hc w (hJ0 hDn)).2.2) (hW.read (by decide) (by decide) (by decide))
  .have hDn:L 17=false:=by
    cases h:L 17 with
    |false=>rfl
    |true=>have:=clD L hcl h 16 (by decide);rw[hLi]at this;cases this
   have hS:L 22=false:=by
    cases h:L 22 with
    |false=>rfl
    |true=>have:=hcl 22 16 h (by simp[dep,ops,n22,Region.binds]);rw[hLi]at this;cases this
   obtain⟨_,hsz,hJ0,hJ1,hAx⟩:L 22=false/\w1.heap.size<=w.heap.size/\(L 17=false->J0 w)/\(L 17=true->J1 w)/\(L 21=true->w1.heap.size<=x/\w.heap[x]? = some (.cells #[.int .i64 0,.slice none 0 0] 59 (0,0))):=by
    rcases hW with h|h
    .exact h
    rw[hS]at h;cases h.1
   unfold Oper.wp;rw[rM a.eval w rfl (hdv 15 24 (by simp[dep,ops,n16,Region.binds]) rfl),Oper.upon_enter];refine (hM w (hJ0 hDn)).mono ?_;rintro e w'⟨rfl,hf⟩;refine⟨x,rfl,fun _ _=>rfl,?_⟩;unfold Wd;rw[zcn L (show 17≠16 by decide),zcn L (show 21≠16 by decide),zcn L (show 22≠16 by decide)];exact Or.inl ⟨hS,Nat.le_trans hsz hf.size,fun h=>q0 _ _ (hJ0 h) hf,fun h=>q1 _ _ (hJ1 h) hf,fun h=>⟨(hAx h).1,hf.keep (hAx h).2 (by simp)⟩⟩
  .have hS:L 22=false:=by
    cases h:L 22 with
    |false=>rfl
    |true=>have:=hcl 22 17 h (by simp[dep,ops,n22,Region.binds]);rw[hLi]at this;cases this
   obtain⟨_,hsz,hJ0,hJ1,hAx⟩:L 22=false/\w1.heap.size<=w.heap.size/\(L 17=false->J0 w)/\(L 17=true->J1 w)/\(L 21=true->w1.heap.size<=x/\w.heap[x]? = some (.cells #[.int .i64 0,.slice none 0 0] 59 (0,0))):=by
    rcases hW with h|h
    .exact h
    rw[hS]at h;cases h.1
   unfold Oper.wp;rw[rD a.eval w rfl (hdv 7 16 (by simp[dep,ops,n17,Region.binds]) rfl) (hdv 16 25 (by simp[dep,ops,n17,Region.binds]) rfl),Oper.upon_enter];refine (hDi w (hJ0 hLi)).mono ?_;rintro e w'⟨rfl,k1,k2,k3⟩;refine⟨x,rfl,fun _ _=>rfl,?_⟩;unfold Wd;rw[zjh,zcn L (show 21≠17 by decide),zcn L (show 22≠17 by decide)];exact Or.inl ⟨hS,Nat.le_trans hsz k2,fun h=>(by cases h),fun _=>k1,fun h=>⟨(hAx h).1,k3 x _ (hAx h).1 (hAx h).2⟩⟩
  .exact zal (r18 _ _ (hdv 17 26 (by simp[dep,ops,n18,Region.binds]) rfl)) (hW.read (by decide) (by decide) (by decide))
  .exact zal (r19 _ _ (hdv 18 8 (by simp[dep,ops,n19,Region.binds]) rfl)) (hW.read (by decide) (by decide) (by decide))
  .exact zal (r20 _ _ (hdv 18 8 (by simp[dep,ops,n20,Region.binds]) rfl)) (hW.read (by decide) (by decide) (by decide))
  .have hS:L 22=false:=by
    cases h:L 22 with
    |false=>rfl
    |true=>have:=hcl 22 21 h (by simp[dep,ops,n22,Region.binds]);rw[hLi]at this;cases this
   obtain⟨_,hsz,hJ0,hJ1,hAx⟩:L 22=false/\w1.heap.size<=w.heap.size/\(L 17=false->J0 w)/\(L 17=true->J1 w)/\(L 21=true->w1.heap.size<=x/\w.heap[x]? = some (.cells #[.int .i64 0,.slice none 0 0] 59 (0,0))):=by
    rcases hW with h|h
    .exact h
    rw[hS]at h;cases h.1
   have hf:Fr [] w (w.alloc (.cells #[.int .i64 0,.slice none 0 0] 59)):=Fr.alloc _ _ _;unfold Oper.wp;rw[rA a.eval w];refine⟨w.heap.size,rfl,fun j hj=> ?_,?_⟩
   .by_cases e:j=21
    .subst e;rw[hLi]at hj;cases hj
    unfold val;split<;>first|rfl|omega
   unfold Wd;rw[zjh,zcn L (show 17≠21 by decide),zcn L (show 22≠21 by decide)];exact Or.inl ⟨hS,Nat.le_trans hsz hf.size,fun h=>q0 _ _ (hJ0 h) hf,fun h=>q1 _ _ (hJ1 h) hf,fun _=>⟨hsz,heap_alloc_new _ _⟩⟩
  .have hS:L 22=false:=hLi;obtain⟨_,hsz,hJ0,hJ1,hAx⟩:L 22=false/\w1.heap.size<=w.heap.size/\(L 17=false->J0 w)/\(L 17=true->J1 w)/\(L 21=true->w1.heap.size<=x/\w.heap[x]? = some (.cells #[.int .i64 0,.slice none 0 0] 59 (0,0))):=by
    rcases hW with h|h
    .exact h
    rw[hS]at h;cases h.1
   have hA:=hAx (hdl 21 (by simp[dep,ops,n22,Region.binds]));have hDd:L 17=true:=hdl 17 (by simp[dep,ops,n22,Region.binds]);unfold Oper.wp;rw[rS a.eval w (hdv 21 4 (by simp[dep,ops,n22,Region.binds]) rfl) (hdv 19 27 (by simp[dep,ops,n22,Region.binds]) rfl) hA.2];refine⟨x,rfl,fun j hj=>rfl,?_⟩;unfold Wd;rw[zjh];exact Or.inr ⟨rfl,w,hJ1 hDd,hA.1,hA.2,rfl⟩
  exact zal (r23 _ _ (hdv 20 28 (by simp[dep,ops,n23,Region.binds]) rfl)) (hW.read (by decide) (by decide) (by decide))
 intro x L w hL hW;rcases hW with⟨h,_⟩|⟨_,w',a1,a2,a3,rfl⟩
 .rw[hL 22 (by decide)]at h;cases h
 exact hend x w' a1 a2 a3
end Kf
section
open Go.ChangeShapes Go.WideShapes Go.ChangeAt Go.RowKit Go.Lib Go.Maps
section
variable{w0 w w':World}{c:Cf}{T:List Tx}{Z:Lay}{s:Ms}
def Xb(W:World)(x:Nat)(n:Int)(B K:Nat):Prop:=W.heap[x]? = some (.cells #[.int .i64 n,.slice (some ⟨B,0,none⟩) K K] 59 (0,0))
theorem zadc(T:List Tx)(kb:Int->Nat)(wt:Int->Prop)(n:Int):updF (wtF T kb wt) n (some (some (n,kb n,(wsAt T n).length)))=wtF T kb (fun m=>wt m\/m=n):=by
 funext m
 by_cases e:m=n
 .subst e;rw[zad];unfold wtF;rw[if_pos (Or.inr rfl)]
 rw[zab _ _ e];unfold wtF;by_cases hm:wt m
 .rw[if_pos hm,if_pos (Or.inl hm)]
 rw[if_neg hm,if_neg (fun x=>x.elim hm e)]
def Z1D(Z:Lay)(n:Int)(B:Nat):Lay:={Z with hw:=.slice none 0 0,kb:=kbU Z.kb n B,nr:=Z.nr+1}
def s1D(s:Ms):Ms:={s with hv:=false}
theorem zxk(h:MaM w0 w c T Z s)(hnr:Z.nr=s.d)(hW:Wf c T s)(hv:s.hv=true)(hnear:(s.rd:Int)<=s.ma+c.w)(hk:s.k<16000000) :
  Calls Tryz.prog 254 #[.pointer (some ⟨Z.z.kd,0,none⟩)] w fun e w'=>e=.returned (.tuple #[.int .i64 (s.rd:Int),.int .i64 (((zcb T s).length:Nat):Int)])/\∃Z',Dn w0 c T w Z s w' Z' (zaq T s)/\Z'.nr=(zaq T s).d:=by
 have hrd:=hW.hol hv;have hrdi:(s.rd:Int)=((s.d+1:Nat):Int):=by omega
 have hopn:∀n,Opn T s n->n<=(s.d:Int):=fun n hn=>((hW.op).1 hn).1.2;have hwt:¬s.wt (s.rd:Int):=fun x=>by have:=hopn _ ((hW.wait _).1 x).1;omega
 have hline:(s.rd:Int)∉s.line:=fun x=>by have:=hopn _ (hW.line _ x).1;omega
 have hT:=hW.fdl;have hok:okT (s.rd:Int) (wsAt T s.rd):=hW.txn (by omega) (by omega);have hfbl:Z.z.fb<w.heap.size:=h.fe.m.lt;obtain⟨B,hB⟩:∃B,Z.hw=.slice (some ⟨B,0,none⟩) (wsAt T s.rd).length (wsAt T s.rd).length:=h.heldB hv hrd;obtain⟨K,hK⟩:∃K,(wsAt T s.rd).length=K:=⟨_,rfl⟩;obtain⟨N,hN⟩:∃N:Int,(s.rd:Int)=N:=⟨_,rfl⟩;obtain⟨ma,hma⟩:∃ma:Int,s.ma=ma:=⟨_,rfl⟩;have HRg:Hid (∀(Q:Exit->Act->World->Prop)(a0:Act)(id:Nat),a0.tmps.size=66->env a0 0=.pointer (some ⟨Z.z.kd,0,none⟩) ->
   (∀x w',(Dn w0 c T w Z s w' (Z1D Z N B) (s1D s)/\∀b,w.heap.size<=b->MaM.off w0 w' c T (Z1D Z N B) (s1D s) b)->w.heap.size<=x->w'.heap[x]? = some (.cells #[.int .i64 0,.slice none 0 0] 59 (0,0))->Q .normal (puts a0 (Kf.pairs Z.z.kd Z.z.mb Z.z.fb Z.z.gb B K ma N x)) ((w'.setCell ⟨x,0,none⟩ (.int .i64 N)).setCell ⟨x,1,none⟩ (.slice (some ⟨B,0,none⟩) K K)))->(Code.region id Kf.ops true).wp Tryz.prog Q a0 w):=fun Q a0 id e1 e2 e3=>by
  refine Kf.reg (J0:=fun W=>Fr [] w W) (J1:=fun W=>Dn w0 c T w Z s W (Z1D Z N B) (s1D s)/\∀b,w.heap.size<=b->MaM.off w0 W c T (Z1D Z N B) (s1D s) b) e1 e2 (fun W W' hD hf=>hD.then hf) (fun W W' hD hf=>⟨hD.1.trans (hD.1.m.dn hf),fun b hb=>hD.1.m.otherO hf (by simp) (hD.2 b hb)⟩) (Fr.refl _ _) (fun W hD=>⟨(h.quiet hD).kdc.1,(h.quiet hD).mc rfl,(h.quiet hD).mc rfl⟩) (fun W hD=> ?_) (fun W hD=> ?_) e3
  .rw[<-hma];exact zfl (h.quiet hD).ga
  rw[<-hma];refine ((h.quiet hD).disF hnr hv hrd hwt hline hnear).mono ?_;rintro e W'⟨B',hB',rfl,_,hD',hf,hoff⟩;have eB:B'=B:=by rw[hB]at hB';cases hB';rfl
  subst eB;rw[hN]at hD' hoff hK
  refine⟨by rw[hN,hK],⟨(h.dn hD).trans hD',fun b hb=> ?_⟩,hf.size,fun x o hx ho=> ?_⟩
  .by_cases hbl:b<W.heap.size
   .exact hD'.off hbl (h.otherO hD (by simp) (h.offNew hb))
   exact hoff b (by omega)
  exact hf.keep ho (by simp;omega)
 have hrowB:∀W,Dn w0 c T w Z s W (Z1D Z N B) (s1D s)->W.heap[B]? = some (.cells (wtsC (wsAt T s.rd)).toArray 56 (0,0)):=fun W hD=>by
  have h2:=(hD.m.re (s.rd:Int) (by omega) (by show (s.rd:Int)<=((Z.nr+1:Nat):Int);omega)).1;have e:(Z1D Z N B).kb (s.rd:Int)=B:=by show kbU Z.kb N B (s.rd:Int)=B;rw[hN,zga]
  rw[e]at h2
  exact h2
 have hroom:s.line.length<c.w.toNat:=by
  have:=zky (l:=s.line++[(s.rd:Int)]) (a:=s.ma) (q:=c.w) (by
   rw[List.nodup_append];refine⟨hW.nd1,by simp,fun a ha b hb e=> ?_⟩;rw[List.mem_singleton.1 hb]at e
   exact hline (e▸ha)) (fun x hx=>by
   rcases List.mem_append.1 hx with hx|hx
   .exact hW.near (hW.line x hx).1
   rw[List.mem_singleton.1 hx];refine⟨?_,hnear⟩;apply Classical.byContradiction;intro h5;have:=hW.enl _ ((hW.en (s.rd:Int)).2 ⟨by omega,Or.inl (by omega)⟩);omega)
  rw[List.length_append]at this
  simp only[List.length_cons,List.length_nil]at this;omega
 obtain⟨xs,hxs⟩:∃xs,zcb T s=xs:=⟨_,rfl⟩;have HC2:Hid (∀W x,Dn w0 c T w Z s W (Z1D Z N B) (s1D s)->MaM.off w0 W c T (Z1D Z N B) (s1D s) x->Xb W x N B K->Calls Tryz.prog 257 #[.pointer (some ⟨Z.z.tb,0,none⟩),.agg #[.int .i64 N,.slice (some ⟨B,0,none⟩) K K]] W fun e w'=>e=.returned (.tuple #[.int .i64 ((xs.length:Nat):Int),.int .i64 0])/\w'.cell? ⟨Z.z.kd,0,none⟩=some (.pointer (some ⟨Z.z.mb,0,none⟩))/\w'.cell? ⟨Z.z.mb,6,none⟩=some (.pointer (some ⟨Z.z.tb,0,none⟩))/\w'.cell? ⟨x,0,none⟩=some (.int .i64 N)/\w'.cell? ⟨x,1,none⟩=some (.slice (some ⟨B,0,none⟩) K K)/\w'.cell? ⟨Z.z.mb,7,none⟩=some (.map (some Z.z.wb))/\∃Z2,Dn w0 c T w Z s w' Z2 {s1D s with d:=s.d+1,k:=s.k+1}/\Z2.nr=Z.nr+1/\Z2.kb=kbU Z.kb N B/\Z2.nw=Z.nw/\MaM.off w0 w' c T Z2 {s1D s with d:=s.d+1,k:=s.k+1} x/\Xb w' x N B K):=fun W x hD ho hx=>by
  have hde:=hD.m.de;have hr:=hrowB W hD;have hne:0<(wsAt T s.rd).length->∀a,some (⟨B,0,none⟩:Addr)=some a->a.block∉(Z1D Z N B).B:=fun _ a e hm=>by
   cases e;have h1:(mP w0 c T (Z1D Z N B) (s1D s) .de).O W B:=hm;have h2:(mP w0 c T (Z1D Z N B) (s1D s) .re).O W B:=⟨(s.rd:Int),by omega,by show (s.rd:Int)<=((Z.nr+1:Nat):Int);omega,by show B=kbU Z.kb N B (s.rd:Int);rw[hN,zga]⟩;have:=hD.m.m.ap .de .re B h1 h2;cases this
  refine Calls.mono (zaes N (some ⟨B,0,none⟩) K K (wsAt T s.rd) W hde (WRs.of_ok hok hr) hK.symm (by rw[<-hN];exact hok) (fun p hp=> ?_) (by have:=hD.m.few.1;have:(Z1D Z N B).nd<=65*s.k:=this;omega) hne) ?_
  .have:=(zhd T _).1 hp;have:p.1<=(s.d:Int):=this.1.2;omega
  rintro e w'⟨ys,B',rfl,hA,hTl,hnew,hf⟩;have eL:lgT T (s1D s).d++[(N,zat (wsAt T s.rd))]=lgT T (s.d+1):=by rw[zhz,<-hrdi,hN];rfl
  rw[eL]at hTl
  have ey:ys=xs:=by
   rw[<-hxs];exact (zvp hA).symm
  subst ey;have hD2:=hD.m.setDe (k:=s.k+1) hf (fun b hb _=>hb) hTl hnew (by have:(Z1D Z N B).nd<=65*s.k:=hD.m.few.1;omega) (Nat.le_succ _) (by show s.d+1<=Z.nr+1;omega);have hDD:=hD.trans hD2;have hx':=hD2.keep hx ho;exact⟨rfl,by have:=hDD.m.kdc.1;rw[hDD.z]at this;exact this,hDD.mc rfl,by rw[crw hx'];rfl,by rw[crw hx'];rfl,hDD.mc rfl,_,hDD,rfl,rfl,rfl,hD2.off (lt_of_block hx) ho,hx'⟩
 have HC3:Hid (∀W3 Z2 x,Dn w0 c T w Z s W3 Z2 {s1D s with d:=s.d+1,k:=s.k+1}->Z2.nr=Z.nr+1->Z2.kb=kbU Z.kb N B->Z2.nw=Z.nw->MaM.off w0 W3 c T Z2 {s1D s with d:=s.d+1,k:=s.k+1} x->Xb W3 x N B K->∃w4,(Instr.mapUpdate 67 (.map (some Z.z.wb)) (.int .i64 N) (.agg #[.int .i64 N,.slice (some ⟨B,0,none⟩) K K])).run Tryz.prog W3=.ok () w4/\∀W5,Fr [] w4 W5->W5.cell? ⟨Z.z.kd,0,none⟩=some (.pointer (some ⟨Z.z.mb,0,none⟩))/\W5.cell? ⟨Z.z.mb,7,none⟩=some (.map (some Z.z.wb))/\Xb W5 x N B K/\(xs≠[]->∃Z',Dn w0 c T w Z s W5 Z' (zaq T s)/\Z'.nr=(zaq T s).d)/\(xs=[]->Calls Tryz.prog 258 #[.pointer (some ⟨Z.z.mb,0,none⟩),.int .i64 N] W5 fun e w'=>(∃v,e=.returned v)/\w'.cell? ⟨Z.z.kd,0,none⟩=some (.pointer (some ⟨Z.z.mb,0,none⟩))/\w'.cell? ⟨x,0,none⟩=some (.int .i64 N)/\∃Z',Dn w0 c T w Z s w' Z' (zaq T s)/\Z'.nr=(zaq T s).d)):=fun W3 Z2 x hD e1 e2 e3 ho hx=>by
  have hwa:=hD.m.wa;have hnw:=hD.m.few.2.1;have hin:i64 N:=.of ⟨by rw[<-hN];exact hok.1,by rw[<-hN];exact hok.2.1⟩;obtain⟨w4,r1,r2,r3⟩:=hwa.store N (some (N,B,K)) hin (by show Z2.nw<maxLen;have:Z2.nw<=s.k+1:=hnw;unfold maxLen;omega);have ekb:Z2.kb N=B:=by rw[e2,zga]
  have eK:(wsAt T N).length=K:=by rw[<-hK,hN]
  have ewt:updF (wtF T Z2.kb s.wt) N (some (some (N,B,K)))=wtF T Z2.kb (fun m=>s.wt m\/m=N):=by
   rw[<-zadc,ekb,eK]
  have r2':MapG kTx w4 Z2.z.wb (Z2.nw+1) (wtF T Z2.kb (fun m=>s.wt m\/m=N)):=by rw[<-ewt];exact r2
  have hwbl:w4.heap.size ≥ W3.heap.size:=r3.size;have hD3:=hD.m.setWa (wt:=fun m=>s.wt m\/m=N) (k:=s.k+1) r3 r2' (by
   have:Z2.nw<=s.k:=by rw[e3];exact h.few.2.1
   omega) (Nat.le_refl _)
  have hx4:=hD3.keep hx ho;have ho4:=hD3.off (lt_of_block hx) ho;refine⟨w4,by have:=hD.z;rw[this]at r1;exact r1,fun W5 hf=> ?_⟩;have hD5:=(hD.trans hD3).trans (hD3.m.dn hf);have hx5:Xb W5 x N B K:=hf.keep hx4 (by simp);have ho5:=hD3.m.otherO hf (by simp) ho4;refine⟨by have:=hD5.m.kdc.1;rw[hD5.z]at this;exact this,hD5.mc rfl,hx5,fun hne=> ?_,fun hem=> ?_⟩
  .have es:zaq T s={s with hv:=false,d:=s.d+1,wt:=fun m=>s.wt m\/m=N,k:=s.k+1}:=by
    unfold zaq;rw[hxs,if_neg hne,if_neg hne,hN]
   rw[es];exact⟨_,hD5,by show Z2.nr=s.d+1;omega⟩
  have hfree:=znd hD5.m (n:=N) hin (Or.inr rfl) hroom;have em:Z2.z.mb=Z.z.mb:=by rw[hD.z]
  rw[<-em];refine hfree.mono ?_;rintro e w6⟨hv6,p',hD6⟩;have hD7:=hD5.trans hD6;refine⟨hv6,by rw[em];have:=hD7.m.kdc.1;rw[hD7.z]at this;exact this,by rw[crw (hD6.keep hx5 ho5)];rfl,?_⟩;have es:zaq T s={s with hv:=false,d:=s.d+1,line:=s.line++[N],wt:=fun m=>(s.wt m\/m=N)/\m≠N,k:=s.k+1}:=by
   unfold zaq;rw[hxs,if_pos hem,if_pos hem,hN]
   congr 1
   funext m
   apply propext;constructor
   .intro a;exact⟨Or.inl a,fun e=>hwt (by rw[hN,<-e];exact a)⟩
   rintro⟨a|a,b⟩
   .exact a
   exact absurd a b
  rw[es];exact⟨_,hD5.trans hD6,by show Z2.nr=s.d+1;omega⟩
 have HX:Hid (∀x w',(Dn w0 c T w Z s w' (Z1D Z N B) (s1D s)/\∀b,w.heap.size<=b->MaM.off w0 w' c T (Z1D Z N B) (s1D s) b)->w.heap.size<=x->w'.heap[x]? = some (.cells #[.int .i64 0,.slice none 0 0] 59 (0,0))->∀W,Fr [] ((w'.setCell ⟨x,0,none⟩ (.int .i64 N)).setCell ⟨x,1,none⟩ (.slice (some ⟨B,0,none⟩) K K)) W->Dn w0 c T w Z s W (Z1D Z N B) (s1D s)/\MaM.off w0 W c T (Z1D Z N B) (s1D s) x/\Xb W x N B K/\W.cell? ⟨Z.z.kd,0,none⟩=some (.pointer (some ⟨Z.z.mb,0,none⟩))/\W.cell? ⟨Z.z.mb,6,none⟩=some (.pointer (some ⟨Z.z.tb,0,none⟩))):=fun x w' hD hx hb W hf=>by
  have f1:Fr [x] w' ((w'.setCell ⟨x,0,none⟩ (.int .i64 N)).setCell ⟨x,1,none⟩ (.slice (some ⟨B,0,none⟩) K K)):=(Fr.set _ _ _ (by simp)).then (Fr.set _ _ _ (by simp));have hox:=hD.2 x hx;have hD2:=hD.1.finS h (Fr.refl _ _) (S:=[x]) (fun b hb'=>by rw[List.mem_singleton.1 hb'];exact⟨hx,hox⟩) f1;have ho2:=hD.1.m.otherO f1 (fun b hb'=>by rw[List.mem_singleton.1 hb'];exact⟨by have:=h.fr.size;omega,hox⟩) hox;have hb2:Xb ((w'.setCell ⟨x,0,none⟩ (.int .i64 N)).setCell ⟨x,1,none⟩ (.slice (some ⟨B,0,none⟩) K K)) x N B K:=zcj _ (zcj _ hb);have hD3:=hD2.trans (hD2.m.dn hf);exact⟨hD3,hD2.m.otherO hf (by simp) ho2,hf.keep hb2 (by simp),by have:=hD3.m.kdc.1;rw[hD3.z]at this;exact this,hD3.mc rfl⟩
 rw[hN,hxs];clear h hnr hW hv hnear hk hrd hrdi hopn hwt hline hT hok hB hK hN hma hrowB hroom hxs hfbl;go_enter Tryz.func254,Tryz.ntmps254;go_upto_region 1 with fail
 refine HRg.out _ _ _ rfl rfl ?_;clear HRg;rintro x w' hD hx hb;obtain⟨w2,HW2⟩:∃w2,Hid ((w'.setCell ⟨x,0,none⟩ (.int .i64 N)).setCell ⟨x,1,none⟩ (.slice (some ⟨B,0,none⟩) K K)=w2):=⟨_,rfl⟩;have hX:=HX.out x w' hD hx hb;rw[HW2.out]at hX ⊢
 have HX2:Hid (∀W,Fr [] w2 W->_):=hX;clear hX HX HW2 hD hx hb;simp only[Kf.pairs,puts,Act.put];rename_i KK hKK;show KK _ _;refine hKK _ _ ?_;obtain⟨hD2,ho2,hx2,y0,y6⟩:=HX2.out w2 (Fr.refl _ _);have x0:w2.cell? ⟨x,0,none⟩=some (.int .i64 N):=by rw[crw hx2];rfl
 have x1:w2.cell? ⟨x,1,none⟩=some (.slice (some ⟨B,0,none⟩) K K):=by rw[crw hx2];rfl
 obtain⟨hD3,ho3,hx3,_,_⟩:=HX2.out w2.drew (Fr.drew _ _);have HCA:Hid (Calls ..):=HC2.out w2.drew x hD3 ho3 hx3;clear hD2 ho2 hx2 hD3 ho3 hx3 HX2 HC2;go_upto_region 2 with fail
 go_region_held3 (fun W=>W.cell? ⟨Z.z.kd,0,none⟩=some (.pointer (some ⟨Z.z.mb,0,none⟩))/\W.cell? ⟨Z.z.mb,6,none⟩=some (.pointer (some ⟨Z.z.tb,0,none⟩))/\W.cell? ⟨x,0,none⟩=some (.int .i64 N)/\W.cell? ⟨x,1,none⟩=some (.slice (some ⟨B,0,none⟩) K K)) (go_keep)
  (first
   |(with_reducible refine Calls.mono HCA.out ?_;rintro e w3⟨rfl,a0,a6,ax0,ax1,a7,Z2,g1,g2,g3,g4,g5,g6⟩))
 have HD3:Hid (Dn w0 c T w Z s w3.drew Z2 {s1D s with d:=s.d+1,k:=s.k+1}):=g1.trans (g1.m.dn (Fr.drew _ _));have ho3:=g1.m.otherO (Fr.drew [] w3) (by simp) g5;have hx3:Xb w3.drew x N B K:=(Fr.drew [] w3).keep g6 (by simp);obtain⟨w4,hmu,hN4⟩:=HC3.out w3.drew Z2 x HD3.out g2 g3 g4 ho3 hx3;have HN4:Hid (∀W5,Fr [] w4 W5->_):=hN4;obtain⟨b0,b7,bx,_,_⟩:=hN4 w4 (Fr.refl _ _);have bx0:w4.cell? ⟨x,0,none⟩=some (.int .i64 N):=by rw[crw bx];rfl
 have bx1:w4.cell? ⟨x,1,none⟩=some (.slice (some ⟨B,0,none⟩) K K):=by rw[crw bx];rfl
 clear g1 g2 g3 g4 g5 g6 HD3 ho3 hx3 hN4 bx HC3 HCA y0 y6 x0 x1;go_upto_region 3 with fail
 go_region_held3 (fun W=>W.cell? ⟨Z.z.kd,0,none⟩=some (.pointer (some ⟨Z.z.mb,0,none⟩))/\W.cell? ⟨Z.z.mb,7,none⟩=some (.map (some Z.z.wb))/\W.cell? ⟨x,0,none⟩=some (.int .i64 N)/\W.cell? ⟨x,1,none⟩=some (.slice (some ⟨B,0,none⟩) K K)) (go_keep) (fail)
 clear hmu a0 a6 ax0 ax1 a7;by_cases hxs:xs=[]
 .subst hxs;simp only[List.length_nil];have HXS:Hid (([]:List Int)=[]):=rfl;obtain⟨_,_,_,_,hC⟩:=HN4.out w4.drew (Fr.drew _ _);have HC:Hid (Calls ..):=hC HXS.out;clear HN4 hC b7;go_wp2_with fail
  go_region_held3 (fun W=>W.cell? ⟨Z.z.kd,0,none⟩=some (.pointer (some ⟨Z.z.mb,0,none⟩))/\W.cell? ⟨x,0,none⟩=some (.int .i64 N)) (go_keep)
   (first
    |(with_reducible refine Calls.mono HC.out ?_;rintro e w5⟨⟨vv,rfl⟩,c50,c5x,hfin⟩))
  have HFin:Hid (∃Z',_):=hfin;clear hfin;go_wp2_with fail
  refine bodyPost_ret (zfz rfl _ _ _) rfl ?_;exact⟨rfl,HFin.out⟩
 obtain⟨_,_,_,hC,_⟩:=HN4.out w4 (Fr.refl _ _);have HFin:Hid (∃Z',_):=hC hxs;have hL0:0<xs.length:=List.length_pos_iff.2 hxs;obtain⟨L,hL⟩:∃L,xs.length=L:=⟨_,rfl⟩;have HL:Hid (xs.length=L):=hL;rw[hL]at hL0 ⊢
 clear HN4 hC hxs hL b7 b0;go_wp2_with fail
 refine bodyPost_ret (zfz rfl _ _ _) rfl ?_;exact⟨by rw[HL.out];rfl,HFin.out⟩
end
section
variable{w0 w w':World}{c:Cf}{T:List Tx}{Z:Lay}{s:Ms}
theorem zade(h:MaM w0 w c T Z s)(hnr:Z.nr=s.d)(hW:Wf c T s)(hv:s.hv=true)(hnear:(s.rd:Int)<=s.ma+c.w)(hk:s.k<16000000):Calls Tryz.prog 251 #[.pointer (some ⟨Z.z.kd,0,none⟩),.int .u8 3] w fun e w'=>StP w0 c T w Z s (s.rd:Int) 0 (((zcb T s).length:Nat):Int) (zaq T s) e w':=by
 obtain⟨w1,HW1⟩:∃w1,Hid (w.alloc (.cells #[.int .i64 0,.int .u8 0,.int .i64 0,.int .i64 0,.int .i64 0,.int .i64 0] 35)=w1):=⟨_,rfl⟩;obtain⟨A,HA⟩:∃A,Hid (w.heap.size=A):=⟨_,rfl⟩;have hF1:Fr [] w w1:=by rw[<-HW1.out];exact Fr.alloc _ _ _
 have hBx:Bx w0 c T w1 Z s A:=by rw[<-HW1.out,<-HA.out];exact Bx.new h
 have h1:=h.quiet hF1;obtain⟨N,hN⟩:∃N:Int,(s.rd:Int)=N:=⟨_,rfl⟩;obtain⟨C,hC⟩:∃C:Int,(((zcb T s).length:Nat):Int)=C:=⟨_,rfl⟩;have HC1:Hid (Calls Tryz.prog 254 #[.pointer (some ⟨Z.z.kd,0,none⟩)] w1 fun e w'=>e=.returned (.tuple #[.int .i64 N,.int .i64 C])/\w'.heap[A]? = some (.cells #[.int .i64 0,.int .u8 0,.int .i64 0,.int .i64 0,.int .i64 0,.int .i64 0] 35 (0,0))/\∀W',Fr [A] w' W'->∃Z',Dn w0 c T w Z s W' Z' (zaq T s)/\Z'.nr=(zaq T s).d):=by
  refine (zxk h1 hnr hW hv hnear hk).mono ?_;rintro e w'⟨rfl,Z',hD,hnr'⟩;refine⟨by rw[hN,hC],(hBx.then hD).box,fun W' hf=>⟨_,hD.fin h hF1 (by rw[HA.out];exact Nat.le_refl _) hBx hf,hnr'⟩⟩
 rw[hN,hC];clear h hnr hW hv hnear hk hF1 hBx h1 hN hC;go_enter Tryz.func251,Tryz.ntmps251;go_upto_region 1 with fail
 rw[HW1.out,HA.out];clear HW1 HA;go_wp2_with fail
 refine Calls.mono HC1.out ?_;rintro e w2⟨rfl,hb,hfin⟩;have HFin:Hid (∀W',_->_):=hfin;clear hfin HC1;go_wp2_with (first
  |(refine zag rfl _ _ rfl A 0 0 N 0 C 0 rfl rfl 0 0 0 0 0 0 hb ?_;intro w6 hw6 hf6;have HF6:Hid _:=HFin.out _ hf6;clear hf6)
  |fail)
 refine bodyPost_ret (zay rfl _ _ _ A _ rfl (zbv hw6.out)) rfl ?_;exact⟨rfl,HF6.out⟩
end
theorem zsh{c:Cf}(hm:c.may)(x:Wt):0<=(Cf.shard c x.key).1/\(Cf.shard c x.key).1<c.s:=by
 have h:=hm.2.1;unfold Cf.shard;rw[if_neg (by simpa using hm)];split
 .simp only;omega
 simp only[zlf];exact⟨Int.emod_nonneg _ (by omega),Int.emod_lt_of_pos _ (by omega)⟩
theorem zxl{c:Cf}(hm:c.may)(x:Wt):shW c x<c.s.toNat:=by
 have:=zsh hm x;unfold shW;omega
open Classical in
theorem zxm(P:Int->Prop)(d:Nat)(h:∀m,P m->1<=m/\m<=(d:Int)):∃xs:List Int,Ris xs/\∀m,m∈xs↔P m:=by
 refine⟨((List.range d).map fun(i:Nat)=>((i:Int)+1)).filter fun m=>decide (P m),?_,fun m=> ?_⟩
 .refine List.Pairwise.filter _ (List.pairwise_map.2 ?_);exact List.pairwise_lt_range.imp fun h=>by omega
 rw[List.mem_filter,List.mem_map];constructor
 .rintro⟨_,h2⟩;exact of_decide_eq_true h2
 intro hm;obtain⟨a,b⟩:=h m hm;exact⟨⟨(m-1).toNat,List.mem_range.2 (by omega),by omega⟩,decide_eq_true hm⟩
theorem zaft(T:List Tx)(d:Nat)(en:Int->Prop)(ks:List ByteArray):∃xs,AdT (lgT T d) en ks xs:=by
 obtain⟨xs,h1,h2⟩:=zxm (fun m=>Op11 (lgT T d) en m/\∃k∈ks,lst (lgT T d) k=m) d (fun m hm=>(op_iff.1 hm.1).1);exact⟨xs,h1,h2⟩
theorem zafu(T:List Tx)(d:Nat)(en:Int->Prop)(n:Int):∃zs,DoT (lgT T d) (Op11 (lgT T d) en) n zs:=by
 obtain⟨xs,h1,h2⟩:=zxm (fun o=>Op11 (lgT T d) en o/\Dep (lgT T d) o n/\∀m,Op11 (lgT T d) en m->m≠n->¬Dep (lgT T d) o m) d (fun m hm=>(op_iff.1 hm.1).1);exact⟨xs,h1,h2⟩
def canT(c:Cf)(s:Ms)(q:Nat):Nat:=if q=0 then canD c s else if q<=c.l.toNat then canW c s (q-1) else if q<=c.l.toNat+c.s.toNat then canK s (q-c.l.toNat-1) else canG s
def tyT(c:Cf)(q:Nat):TypeId:=if q=0 then 215 else if q<=c.l.toNat then 221 else if q<=c.l.toNat+c.s.toNat then 224 else 227
def bT(c:Cf)(Z:St)(q:Nat):Nat:=if q=0 then Z.kd else if q<=c.l.toNat then Z.kw (q-1) else if q<=c.l.toNat+c.s.toNat then Z.kk (q-c.l.toNat-1) else Z.kg
def canF(c:Cf)(q:Nat):FuncId:=if q=0 then 248 else if q<=c.l.toNat then 268 else if q<=c.l.toNat+c.s.toNat then 302 else 335
def zgq(c:Cf)(q:Nat):FuncId:=if q=0 then 251 else if q<=c.l.toNat then 270 else if q<=c.l.toNat+c.s.toNat then 303 else 336
theorem zqe(c:Cf)(Z:St)(q:Nat):zbf c Z q=.iface (tyT c q) (.pointer (some ⟨bT c Z q,0,none⟩)):=by
 unfold zbf tyT bT;split
 .rfl
 split
 .rfl
 split
 .rfl
 rfl
theorem ztw(c:Cf)(Z:St)(q:Nat)(w:World):(method 609 (tyT c q) (.pointer (some ⟨bT c Z q,0,none⟩)) "towpath/replica.can").run Tryz.prog w=.ok (canF c q,.pointer (some ⟨bT c Z q,0,none⟩)) w:=by
 unfold tyT bT canF;split
 .exact zafl _ _
 split
 .exact zafm _ _
 split
 .exact zafn _ _
 exact zafo _ _
theorem zafv(c:Cf)(Z:St)(q:Nat)(w:World):(method 609 (tyT c q) (.pointer (some ⟨bT c Z q,0,none⟩)) "towpath/replica.step").run Tryz.prog w=.ok (zgq c q,.pointer (some ⟨bT c Z q,0,none⟩)) w:=by
 unfold tyT bT zgq;split
 .exact zact _ _
 split
 .exact zacu _ _
 split
 .exact zacv _ _
 exact zacw _ _
theorem zjl(c:Cf)(q:Nat):∀args w,(callFunc (canF c q) args).run Tryz.prog w=.ok (.enter (canF c q) args) w:=by
 unfold canF;split
 .exact enters_of Tryz.func248 (by kernel_rfl) rfl
 split
 .exact enters_of Tryz.func268 (by kernel_rfl) rfl
 split
 .exact enters_of Tryz.func302 (by kernel_rfl) rfl
 exact enters_of Tryz.func335 (by kernel_rfl) rfl
theorem ztx(c:Cf)(q:Nat):∀args w,(callFunc (zgq c q) args).run Tryz.prog w=.ok (.enter (zgq c q) args) w:=by
 unfold zgq;split
 .exact enters_of Tryz.func251 (by kernel_rfl) rfl
 split
 .exact enters_of Tryz.func270 (by kernel_rfl) rfl
 split
 .exact enters_of Tryz.func303 (by kernel_rfl) rfl
 exact enters_of Tryz.func336 (by kernel_rfl) rfl
section
variable{w0 w w':World}{c:Cf}{T:List Tx}{Z:Lay}{s:Ms}
theorem zabi(h:MaM w0 w c T Z s){q:Nat}(hq:q<c.l.toNat+c.s.toNat+2):(method 609 (tyT c q) (.pointer (some ⟨bT c Z.z q,0,none⟩)) "towpath/replica.number").run Tryz.prog w=.ok (250,.agg #[.pointer (some ⟨Z.z.mb,0,none⟩),.int .i64 (q:Int)]) w:=by
 unfold tyT bT;by_cases h1:q=0
 .rw[if_pos h1,if_pos h1];have:=h.kdc;exact zwz this.1 (by rw[this.2,h1];rfl)
 rw[if_neg h1,if_neg h1];by_cases h2:q<=c.l.toNat
 .rw[if_pos h2,if_pos h2];have:=h.kwc (i:=q-1) (by omega);exact zxa this.1 (by rw[this.2.1,show q-1+1=q by omega])
 rw[if_neg h2,if_neg h2];by_cases h3:q<=c.l.toNat+c.s.toNat
 .rw[if_pos h3,if_pos h3];have:=h.kkc (j:=q-c.l.toNat-1) (by omega);exact zxb this.1 (by rw[this.2.1,show c.l.toNat+1+(q-c.l.toNat-1)=q by omega])
 rw[if_neg h3,if_neg h3];have:=h.kgc;exact zxc this.1 (by rw[this.2,show c.l.toNat+c.s.toNat+1=q by omega])
theorem Wf.lnOk(hW:Wf c T s){i:Nat}(hi:i<c.l.toNat){g:Hl}(hn:s.ln i=some g):LnOk c g:=by
 have ho:=(hW.lane i g hi hn).1;have hb:=(hW.op.1 ho).1;have hdT:=hW.dT;have hok:=hW.txn hb.1 (by omega);obtain⟨A,hA,_⟩:=hW.las i g hi hn;refine⟨⟨hok.1,hok.2.1⟩,fun y hy=>⟨hok.2.2.2 y (zld _ y (by rw[hA];exact List.mem_append_right _ hy)),zsh hW.may y⟩⟩
theorem zmm(h:MaM w0 w c T Z s)(hW:Wf c T s){q:Nat}(hq:q<c.l.toNat+c.s.toNat+2):Calls Tryz.prog (canF c q) #[.pointer (some ⟨bT c Z.z q,0,none⟩)] w fun e w'=>e=.returned (.int .u8 (canT c s q:Int))/\Fr [] w w':=by
 unfold canF bT canT;by_cases h1:q=0
 .rw[if_pos h1,if_pos h1,if_pos h1];exact zafp h
 rw[if_neg h1,if_neg h1,if_neg h1];by_cases h2:q<=c.l.toNat
 .rw[if_pos h2,if_pos h2,if_pos h2];exact zafs h (by omega) (fun g hg=>hW.lnOk (by omega) hg)
 rw[if_neg h2,if_neg h2,if_neg h2];by_cases h3:q<=c.l.toNat+c.s.toNat
 .rw[if_pos h3,if_pos h3,if_pos h3];exact zafq h (by omega)
 rw[if_neg h3,if_neg h3,if_neg h3];exact zafr h
structure Nxt(c:Cf)(T:List Tx)(s s':Ms):Prop where
 wf:Wf c T s'
 mu:mu c s'<mu c s
 fd:s'.fd=s.fd
 k:s'.k=s.k+1
 nu:nu c T s'+1=nu c T s
theorem zaal(h:MaM w0 w c T Z s)(hnr:Z.nr=s.d)(hW:Wf c T s)(hk:s.k<16000000){q:Nat}(hq:q<c.l.toNat+c.s.toNat+2)(hne:canT c s q≠0):Calls Tryz.prog (zgq c q) #[.pointer (some ⟨bT c Z.z q,0,none⟩),.int .u8 (canT c s q:Int)] w fun e w'=>∃s' n sh ct,StP w0 c T w Z s n sh ct s' e w'/\Nxt c T s s':=by
 unfold zgq bT;unfold canT at hne ⊢;by_cases h1:q=0
 .rw[if_pos h1]at hne
  rw[if_pos h1,if_pos h1,if_pos h1];unfold canD at hne;by_cases hv:s.hv=false
  .rw[if_pos hv]at hne
   by_cases hr:s.rd<s.fd
   .have e:canD c s=1:=by unfold canD;rw[if_pos hv,if_pos hr]
    rw[e];exact (zadd h hnr hv hr).mono fun e w' hS=>⟨_,_,_,_,hS,hW.read hv hr,zacn hW hv hr,rfl,rfl,zadk hW hv hr⟩
   rw[if_neg hr]at hne;exact absurd rfl hne
  rw[if_neg hv]at hne
  have hv':s.hv=true:=by simpa using hv
  by_cases hr:(s.rd:Int)<=s.ma+c.w
  .have e:canD c s=3:=by unfold canD;rw[if_neg hv,if_pos hr]
   rw[e];obtain⟨xs,hx⟩:=zaft T s.d s.en (zat (wsAt T (s.rd:Int)));exact (zade h hnr hW hv' hr hk).mono fun e w' hS=>⟨_,_,_,_,hS,hW.disp hv' hr hx,zaco hW hv',rfl,rfl,zadl hW hv'⟩
  rw[if_neg hr]at hne;exact absurd rfl hne
 rw[if_neg h1]at hne
 rw[if_neg h1,if_neg h1,if_neg h1];by_cases h2:q<=c.l.toNat
 .rw[if_pos h2]at hne
  rw[if_pos h2,if_pos h2,if_pos h2];obtain⟨i,rfl⟩:∃i,q=i+1:=⟨q-1,by omega⟩;simp only[Nat.add_sub_cancel]at hne ⊢;have hi:i<c.l.toNat:=by omega
  cases hn:s.ln i with
  |none=>
   cases hl:s.line with
   |nil=>exfalso;apply hne;simp[canW,hn,hl]
   |cons n r=>
    have e:canW c s i=4:=(by simp[canW,hn,hl]);rw[e];exact (zadf h hnr hW hi hn hl).mono fun e w' hS=>⟨_,_,_,_,hS,hW.take hi hn hl,zacp hW hi hn hl,rfl,rfl,zadm hW hi hn hl⟩
  |some g=>
   have hLk:=hW.lnOk hi hn;obtain⟨n,l,ou⟩:=g;cases l with
   |cons y r=>
    by_cases hq':((s.qs (shW c y)).length:Int)<c.q
    .have e:canW c s i=5:=(by simp[canW,hn,hq']);rw[e];have hsh:=hLk.sh (y:=y) (by simp);exact (zadh h hnr hW hi hn hsh hq' (hLk.x y (by simp)).1 hLk.n).mono fun e w' hS=>⟨_,_,_,_,hS,hW.send hi hn rfl hsh.2 hq',zacq hW hi hn rfl,rfl,rfl,zadn hW hi hn rfl⟩
    .exfalso;apply hne;simp only[canW,hn];rw[if_neg hq']
   |nil=>
    by_cases ho:ou=0
    .subst ho;have e:canW c s i=6:=(by simp[canW,hn]);rw[e];exact (zadg h hnr hW hi hn).mono fun e w' hS=>⟨_,_,_,_,hS,hW.done hi hn rfl rfl,zacr hW hi hn,rfl,rfl,zado hW hi hn⟩
    exfalso;apply hne;simp[canW,hn,ho]
 rw[if_neg h2]at hne
 rw[if_neg h2,if_neg h2,if_neg h2];by_cases h3:q<=c.l.toNat+c.s.toNat
 .rw[if_pos h3]at hne
  rw[if_pos h3,if_pos h3,if_pos h3];obtain⟨j,rfl⟩:∃j,q=c.l.toNat+1+j:=⟨q-c.l.toNat-1,by omega⟩;have ej:c.l.toNat+1+j-c.l.toNat-1=j:=by omega
  rw[ej]at hne ⊢
  have hj:j<c.s.toNat:=by omega
  cases hqs:s.qs j with
  |nil=>exfalso;apply hne;simp[canK,hqs]
  |cons e r=>
   have ec:canK s j=7:=by simp[canK,hqs]
   rw[ec];have hej:e∈s.qs j:=by rw[hqs];simp
   obtain⟨hsh,i,g,hi,hef,hn,hgn⟩:=hW.req j e hj hej;have hLk:=hW.lnOk hi hn;have ho:0<g.out:=by
    rw[hW.out i g hi hn];exact zii (q:=s.qs) hj hej hef
   have hyo:okW e.x:=by
    have ho':=(hW.lane i g hi hn).1;have hb:=(hW.op.1 ho').1;have hdT:=hW.dT;have hok:=hW.txn hb.1 (by omega);obtain⟨A,hA,_,hA3,_⟩:=hW.las i g hi hn;exact hok.2.2.2 _ (zld _ _ (by rw[hA];exact List.mem_append_left _ (hA3 j e hj hej hgn.symm)))
   exact (zadb h hnr hj hqs hi hef hn ho (by rw[<-hgn];exact hLk.n) hyo (hW.rq3 j e hj hej) hk).mono fun e' w' ⟨M',hP,hS⟩=>⟨_,_,_,_,hS,hW.serve hj hqs hi hef hn hP,zzs hW hj hqs hi hef hn M',rfl,rfl,zaak hW hj hqs hi hef hn M'⟩
 rw[if_neg h3]at hne
 rw[if_neg h3,if_neg h3,if_neg h3];cases hp:s.pass with
 |nil=>exfalso;apply hne;simp[canG,hp]
 |cons n r=>
  have ec:canG s=8:=by simp[canG,hp]
  rw[ec];obtain⟨zs,hz⟩:=zafu T s.d s.en n;exact (zadj h hnr hW hp).mono fun e' w' hS=>⟨_,_,_,_,hS,hW.gate hp hz,zacs hW hp hz,rfl,rfl,zadp hW hp hz⟩
end
section
variable{w0 w w':World}{c:Cf}{T:List Tx}{Z:Lay}{s:Ms}
def Evx(w:World)(b:Nat)(t k n sh ct m:Int):Prop:=w.heap[b]? = some (.cells #[.int .i64 t,.int .u8 k,.int .i64 n,.int .i64 sh,.int .i64 ct,.int .i64 m] 35 (0,0))
def AdP(w0:World)(c:Cf)(T:List Tx)(w:World)(Z:Lay)(s:Ms)(q:Nat)(e:Ending)(w':World):Prop:=∃s' n sh ct,e=.returned (evV q (canT c s q) n sh ct s'.ma)/\(∃Z',Dn w0 c T w Z s w' Z' s'/\Z'.nr=s'.d)/\Nxt c T s s'
theorem zadr(h:MaM w0 w c T Z s)(hnr:Z.nr=s.d)(hW:Wf c T s)(hk:s.k<16000000){q:Nat}(hq:q<c.l.toNat+c.s.toNat+2)(hne:canT c s q≠0):Calls Tryz.prog 36 #[.pointer (some ⟨Z.z.mb,0,none⟩),.iface (tyT c q) (.pointer (some ⟨bT c Z.z q,0,none⟩))] w fun e w'=>AdP w0 c T w Z s q e w':=by
 obtain⟨w1,HW1⟩:∃w1,Hid (w.alloc (.cells #[.int .i64 0,.int .u8 0,.int .i64 0,.int .i64 0,.int .i64 0,.int .i64 0] 35)=w1):=⟨_,rfl⟩;obtain⟨A,HA⟩:∃A,Hid (w.heap.size=A):=⟨_,rfl⟩;have hF1:Fr [] w w1:=by rw[<-HW1.out];exact Fr.alloc _ _ _
 have hBx:Bx w0 c T w1 Z s A:=by rw[<-HW1.out,<-HA.out];exact Bx.new h
 have h1:=h.quiet hF1;have hwA:w.heap.size<=A:=by rw[HA.out];exact Nat.le_refl _
 have hAl:A<w1.heap.size:=lt_of_block hBx.box;obtain⟨ty,hty⟩:∃ty,tyT c q=ty:=⟨_,rfl⟩;obtain⟨b,hb⟩:∃b,bT c Z.z q=b:=⟨_,rfl⟩;obtain⟨cf,hcf⟩:∃f,canF c q=f:=⟨_,rfl⟩;obtain⟨sf,hsf⟩:∃f,zgq c q=f:=⟨_,rfl⟩;obtain⟨k,hkk⟩:∃k:Int,(canT c s q:Int)=k:=⟨_,rfl⟩;obtain⟨Q,hQ⟩:∃Q:Int,(q:Int)=Q:=⟨_,rfl⟩;have MC:∀W,(method 609 ty (.pointer (some ⟨b,0,none⟩)) "towpath/replica.can").run Tryz.prog W=.ok (cf,.pointer (some ⟨b,0,none⟩)) W:=fun W=>by rw[<-hty,<-hb,<-hcf];exact ztw c Z.z q W
 have MS:∀W,(method 609 ty (.pointer (some ⟨b,0,none⟩)) "towpath/replica.step").run Tryz.prog W=.ok (sf,.pointer (some ⟨b,0,none⟩)) W:=fun W=>by rw[<-hty,<-hb,<-hsf];exact zafv c Z.z q W
 have EC:∀args W,(callFunc cf args).run Tryz.prog W=.ok (.enter cf args) W:=by rw[<-hcf];exact zjl c q
 have ES:∀args W,(callFunc sf args).run Tryz.prog W=.ok (.enter sf args) W:=by rw[<-hsf];exact ztx c q
 have HC1:Hid (Calls Tryz.prog cf #[.pointer (some ⟨b,0,none⟩)] w1 fun e w'=>e=.returned (.int .u8 k)/\Fr [] w1 w'):=by
  rw[<-hcf,<-hb,<-hkk];exact zmm h1 hW hq
 have HC2:Hid (∀W,Fr [] w1 W->Calls Tryz.prog sf #[.pointer (some ⟨b,0,none⟩),.int .u8 k] W fun e w3=>∃s' n sh ct,e=.returned (.agg #[.int .i64 0,.int .u8 0,.int .i64 n,.int .i64 sh,.int .i64 ct,.int .i64 0])/\Hid (Nxt c T s s'/\∀W4,Fr [w3.heap.size] (w3.alloc (.cells #[.int .i64 0,.int .u8 0,.int .i64 0,.int .i64 0,.int .i64 0,.int .i64 0] 35)) W4->w3.heap.size≠Z.z.mb/\(∀W,Fr [] W4 W->W.cell? ⟨Z.z.mb,12,none⟩=some (.pointer (some ⟨Z.z.gb,0,none⟩))/\(method 609 ty (.pointer (some ⟨b,0,none⟩)) "towpath/replica.number").run Tryz.prog W=.ok (250,.agg #[.pointer (some ⟨Z.z.mb,0,none⟩),.int .i64 Q]) W/\Calls Tryz.prog 23 #[.pointer (some ⟨Z.z.gb,0,none⟩)] W fun e w'=>e=.returned (.int .i64 s'.ma)/\Fr [] W w')/\∀W6,Fr [w3.heap.size] W4 W6->Evx W6 A 0 0 0 0 0 0/\∀W9,Fr [A] W6 W9->∃Z',Dn w0 c T w Z s W9 Z' s'/\Z'.nr=s'.d)):=fun W hf=>by
  rw[<-hsf,<-hb,<-hkk];refine (zaal (h1.quiet hf) hnr hW hk hq hne).mono ?_;rintro e w3⟨s',n,sh,ct,⟨rfl,Z',hD,hnr'⟩,hN⟩;have hD1:=(h.dn (hF1.then hf)).trans hD;have hB3:=(hBx.then (h1.dn hf)).then hD;refine⟨s',n,sh,ct,rfl,hN,fun W4 hf4=> ?_⟩;have hE0:w0.heap.size<=w3.heap.size:=hD.m.fr.size;have hEw:w.heap.size<=w3.heap.size:=by have:=hD1.x.size;omega
  have hAE:A<w3.heap.size:=lt_of_block hB3.box;have hfa:Fr [] w3 (w3.alloc (.cells #[.int .i64 0,.int .u8 0,.int .i64 0,.int .i64 0,.int .i64 0,.int .i64 0] 35)):=Fr.alloc _ _ _;have hBe:Bx w0 c T (w3.alloc (.cells #[.int .i64 0,.int .u8 0,.int .i64 0,.int .i64 0,.int .i64 0,.int .i64 0] 35)) Z' s' w3.heap.size:=Bx.new hD.m;have hDa:=hD1.trans (hD1.m.dn hfa);have hBa:=hB3.then (hD.m.dn hfa);have hS:∀x∈[w3.heap.size],w.heap.size<=x/\MaM.off w0 (w3.alloc (.cells #[.int .i64 0,.int .u8 0,.int .i64 0,.int .i64 0,.int .i64 0,.int .i64 0] 35)) c T Z' s' x:=fun x hx=>by rw[List.mem_singleton.1 hx];exact⟨hEw,hBe.off⟩
  have hS0:∀x∈[w3.heap.size],w0.heap.size<=x/\MaM.off w0 (w3.alloc (.cells #[.int .i64 0,.int .u8 0,.int .i64 0,.int .i64 0,.int .i64 0,.int .i64 0] 35)) c T Z' s' x:=fun x hx=>⟨by rw[List.mem_singleton.1 hx];exact hE0,(hS x hx).2⟩;have hD4:=hDa.finS h (Fr.refl _ _) (S:=[w3.heap.size]) hS hf4;have hbA4:Evx W4 A 0 0 0 0 0 0:=hf4.keep hBa.box (by simp;omega);have hoA4:=hDa.m.otherO hf4 hS0 hBa.off;have hoE4:=hDa.m.otherO hf4 hS0 hBe.off;refine⟨fun e=> ?_,fun W' hf'=> ?_,fun W6 hf6=> ?_⟩
  .have h2:=hD1.m.lt (b:=Z'.z.mb) (Or.inl rfl);rw[hD1.z]at h2
   omega
  .have hD5:=hD4.trans (hD4.m.dn hf');refine⟨hD5.mc rfl,?_,?_⟩
   .have:=zabi hD5.m hq;rw[hD5.z,hty,hQ]at this
    exact this
   have:=zfl hD5.m.ga;rw[hD5.z]at this
   exact this
  have hD6:=hD4.finS h (Fr.refl _ _) (S:=[w3.heap.size]) (fun x hx=>by rw[List.mem_singleton.1 hx];exact⟨hEw,hoE4⟩) hf6;have hbA6:Evx W6 A 0 0 0 0 0 0:=hf6.keep hbA4 (by simp;omega);have hoA6:=hD4.m.otherO hf6 (fun x hx=>by rw[List.mem_singleton.1 hx];exact⟨hE0,hoE4⟩) hoA4;exact⟨hbA6,fun W9 hf9=>⟨_,hD6.finS h (Fr.refl _ _) (S:=[A]) (fun x hx=>by rw[List.mem_singleton.1 hx];exact⟨hwA,hoA6⟩) hf9,hnr'⟩⟩
 unfold AdP;rw[hty,hb];have HK:Hid ((canT c s q:Int)=k/\(q:Int)=Q):=⟨hkk,hQ⟩;clear h hnr hW hk hq hne hF1 hBx h1 hwA hAl hty hb hcf hsf hkk hQ;go_enter Tryz.func36,Tryz.ntmps36;go_upto_region 1 with fail
 rw[HW1.out,HA.out];clear HW1 HA;go_wp2_with (simp[go_sem,MC,MS,EC,ES])
 refine Calls.mono HC1.out ?_;rintro e w2⟨rfl,hf2⟩;have HC3:Hid (Calls ..):=HC2.out w2 hf2;clear HC1 HC2 hf2;go_wp2_with (simp[go_sem,MC,MS,EC,ES])
 refine Calls.mono HC3.out ?_;rintro e w3⟨s',n,sh,ct,rfl,HR⟩;clear HC3 MC MS EC ES;go_wp2_with (first
  |(refine zag rfl _ _ rfl w3.heap.size 0 0 n sh ct 0 rfl rfl 0 0 0 0 0 0 (heap_alloc_new w3 _) ?_;intro w4 hb4 hf4;obtain⟨hN,hR⟩:=HR.out;have HR4:Hid (_/\_):=hR w4 hf4;clear hf4 hR HR;have HNx:Hid (Nxt c T s s'):=hN;clear hN)
  |fail)
 obtain⟨E,HE⟩:∃E,Hid (w3.heap.size=E):=⟨_,rfl⟩;have hne:=HR4.out.1;have hrq:=HR4.out.2.1;have HRf:Hid (∀W6,_->_):=HR4.out.2.2;rw[HE.out]at hb4 hne HRf ⊢
 clear HR4 HE;have hem:E≠Z.z.mb:=hne;have hme:Z.z.mb≠E:=fun e=>hne e.symm;have HBk:Hid (∀W,Fr [] w4 W->Evx W E 0 0 n sh ct 0):=fun W hf=>hf.keep hb4.out (by simp);clear hb4 hne;obtain⟨ma,hma⟩:∃ma,s'.ma=ma:=⟨_,rfl⟩;have HRq:Hid (∀W,Fr [] w4 W->W.cell? ⟨Z.z.mb,12,none⟩=some (.pointer (some ⟨Z.z.gb,0,none⟩))/\Hid (Calls Tryz.prog 23 #[.pointer (some ⟨Z.z.gb,0,none⟩)] W fun e w'=>e=.returned (.int .i64 ma)/\Fr [] W w')):=fun W hf=>⟨(hrq W hf).1,by rw[<-hma];exact (hrq W hf).2.2⟩;have HU:Hid (∀W,Fr [] w4 W->W.cell? ⟨E,0,none⟩=some (.int .i64 0)/\W.cell? ⟨E,1,none⟩=some (.int .u8 0)/\W.cell? ⟨E,5,none⟩=some (.int .i64 0)/\W.frozen? ⟨E,0,none⟩=false/\W.frozen? ⟨E,1,none⟩=false/\W.frozen? ⟨E,5,none⟩=false):=fun W hf=>by
  have hb6:=HBk.out W hf;refine⟨?_,?_,?_,?_,?_,?_⟩
  .rw[crw hb6];rfl
  .rw[crw hb6];rfl
  .rw[crw hb6];rfl
  .simp[World.frozen?,show W.heap[E]? = _ from hb6]
  .simp[World.frozen?,show W.heap[E]? = _ from hb6]
  simp[World.frozen?,show W.heap[E]? = _ from hb6]
 obtain⟨c12,_,_⟩:=hrq w4 (Fr.refl _ _);obtain⟨c12d,MN,_⟩:=hrq w4.drew (Fr.drew _ _);have HFd:Hid (Fr [] w4 w4.drew):=Fr.drew _ _;have HMa:Hid (s'.ma=ma):=hma;clear hma hrq;have HNm:Hid (Calls Tryz.prog 250 #[.agg #[.pointer (some ⟨Z.z.mb,0,none⟩),.int .i64 Q]] w4.drew fun e w'=>e=.returned (.int .i64 Q)/\Fr [] w4.drew w'):=zkz _ _ _;simp only[Act.put];go_region_held3 (fun W=>W.cell? ⟨Z.z.mb,12,none⟩=some (.pointer (some ⟨Z.z.gb,0,none⟩))) (go_keep)
  (first
   |(go_at_call 250;with_reducible refine Calls.mono HNm.out ?_;rintro e w5⟨rfl,hf5⟩;obtain⟨c5,HM5⟩:=HRq.out w5 (Fr.then HFd.out hf5))
   |(go_at_call 23;with_reducible refine Calls.mono HM5.out ?_;rintro e w6⟨rfl,hf6⟩;obtain⟨c6,_⟩:=HRq.out w6 (Fr.then (Fr.then HFd.out hf5) hf6);obtain⟨u0,u1,u5,z0,z1,z5⟩:=HU.out w6 (Fr.then (Fr.then HFd.out hf5) hf6))
   |simp[go_sem,MN])
 have hF46:Fr [] w4 w6:=Fr.then (Fr.then HFd.out hf5) hf6;obtain⟨w8,HW8⟩:∃w8,Hid (((w6.setCell ⟨E,0,none⟩ (.int .i64 Q)).setCell ⟨E,1,none⟩ (.int .u8 k)).setCell ⟨E,5,none⟩ (.int .i64 ma)=w8):=⟨_,rfl⟩;have hF8:Fr [E] w4 w8:=by
  rw[<-HW8.out];exact (((hF46.mono (by simp)).then (Fr.set _ _ _ (by simp))).then (Fr.set _ _ _ (by simp))).then (Fr.set _ _ _ (by simp))
 have hb8:Evx w8 E Q k n sh ct ma:=by
  rw[<-HW8.out];exact zcj _ (zcj _ (zcj _ (HBk.out w6 hF46)))
 obtain⟨hA8,hfin⟩:=HRf.out w8 hF8;have HFin9:Hid (∀w9,_->_):=hfin;have e0:w8.cell? ⟨E,0,none⟩=some (.int .i64 Q):=by rw[crw hb8];rfl
 have e1:w8.cell? ⟨E,1,none⟩=some (.int .u8 k):=by rw[crw hb8];rfl
 have e2:w8.cell? ⟨E,2,none⟩=some (.int .i64 n):=by rw[crw hb8];rfl
 have e3:w8.cell? ⟨E,3,none⟩=some (.int .i64 sh):=by rw[crw hb8];rfl
 have e4:w8.cell? ⟨E,4,none⟩=some (.int .i64 ct):=by rw[crw hb8];rfl
 have e5:w8.cell? ⟨E,5,none⟩=some (.int .i64 ma):=by rw[crw hb8];rfl
 rw[HW8.out];clear hF8 hb8 hfin HRf HW8 hF46 u0 u1 u5 z0 z1 z5 HU HBk HRq HM5 HNm HFd hf5 hf6 c5 c6 c12 c12d MN;go_wp2_with (first
  |(refine zag rfl _ _ rfl A Q k n sh ct ma rfl rfl 0 0 0 0 0 0 hA8 ?_;intro w9 hw9 hf9;have HF9:Hid _:=HFin9.out _ hf9;clear hf9)
  |fail)
 refine bodyPost_ret (zay rfl _ _ _ A _ rfl (zbv hw9.out)) rfl ?_;exact⟨s',n,sh,ct,by rw[HK.out.1,HK.out.2,HMa.out],HF9.out,HNx.out⟩
end
structure RP(w0 w:World)(p:Nat)(c:Cf)(T:List Tx)(Z:Lay)(s:Ms):Prop where
 m:MaM w0 w c T Z s
 box:w.heap[p]? = some (.cells #[.pointer (some ⟨Z.z.mb,0,none⟩)] 80 (0,0))
 off:MaM.off w0 w c T Z s p
section
variable{w0 w w':World}{p:Nat}{c:Cf}{T:List Tx}{Z:Lay}{s:Ms}
theorem RP.quiet(h:RP w0 w p c T Z s)(hf:Fr [] w w'):RP w0 w' p c T Z s:=⟨h.m.quiet hf,hf.keep h.box (by simp),h.m.otherO hf (by simp) h.off⟩
theorem RP.dn{Z':Lay}{s':Ms}(h:RP w0 w p c T Z s)(hD:Dn w0 c T w Z s w' Z' s'):RP w0 w' p c T Z' s':=⟨hD.m,by rw[hD.z];exact hD.keep h.box h.off,hD.off (lt_of_block h.box) h.off⟩
theorem RP.c0(h:RP w0 w p c T Z s):w.cell? ⟨p,0,none⟩=some (.pointer (some ⟨Z.z.mb,0,none⟩)):=by rw[crw h.box];rfl
theorem zgr(h:RP w0 w p c T Z s):Calls Tryz.prog 21 #[.pointer (some ⟨p,0,none⟩)] w fun e w'=>e=.returned (.bool true)/\w=w':=by
 have c0:=h.c0;clear h;go_enter Tryz.func21,Tryz.ntmps21;go_wp2_with fail
 go_ret;exact⟨rfl,rfl⟩
theorem zex(h:RP w0 w p c T Z s):Calls Tryz.prog 17 #[.pointer (some ⟨p,0,none⟩)] w fun e w'=>e=.returned (.int .i64 0)/\w=w':=by
 have HT:Hid (Calls ..):=zgr h;have c0:=h.c0;have c18:w.cell? ⟨Z.z.mb,18,none⟩=some (.bool false):=h.m.mc rfl;clear h;go_enter Tryz.func17,Tryz.ntmps17;go_wp2_with fail
 refine Calls.mono HT.out ?_;rintro e w1⟨rfl,rfl⟩;go_wp2;go_ret;exact⟨rfl,rfl⟩
theorem zxn(h:RP w0 w p c T Z s):Calls Tryz.prog 10 #[.pointer (some ⟨p,0,none⟩)] w fun e w'=>e=.returned (.int .i64 s.ma)/\Fr [] w w':=by
 have HT:Hid (Calls ..):=zgr h;have c0:=h.c0;have c12:w.cell? ⟨Z.z.mb,12,none⟩=some (.pointer (some ⟨Z.z.gb,0,none⟩)):=h.m.mc rfl;have HM:Hid (Calls ..):=zfl h.m.ga;clear h;go_enter Tryz.func10,Tryz.ntmps10;go_wp2_with fail
 refine Calls.mono HT.out ?_;rintro e w1⟨rfl,rfl⟩;go_wp2_with fail
 refine Calls.mono HM.out ?_;rintro e w1⟨rfl,hf⟩;have HF:Hid (Fr [] w w1):=hf;clear hf;go_wp2;go_ret;exact⟨rfl,HF.out⟩
end
def rdyL(c:Cf)(s:Ms)(i:Nat):List Int:=((List.range i).filter fun q=>decide (canT c s q≠0)).map fun(q:Nat)=>(q:Int)
theorem zaam{c:Cf}{s:Ms}{i:Nat}(h:canT c s i≠0):rdyL c s (i+1)=rdyL c s i++[(i:Int)]:=by
 unfold rdyL;rw[List.range_succ,List.filter_append,List.map_append];simp[h]
theorem zads{c:Cf}{s:Ms}{i:Nat}(h:canT c s i=0):rdyL c s (i+1)=rdyL c s i:=by
 unfold rdyL;rw[List.range_succ,List.filter_append,List.map_append];simp[h]
theorem zaan{c:Cf}{s:Ms}{n:Nat}{x:Int}(h:x∈rdyL c s n):∃q:Nat,x=q/\q<n/\canT c s q≠0:=by
 obtain⟨q,h1,rfl⟩:=List.mem_map.1 h;obtain⟨h2,h3⟩:=List.mem_filter.1 h1;exact⟨q,rfl,List.mem_range.1 h2,of_decide_eq_true h3⟩
theorem zaao{c:Cf}{s:Ms}{n:Nat}(h:rdyL c s n=[]):∀q,q<n->canT c s q=0:=fun q hq=>by
 apply Classical.byContradiction;intro hne;have:(q:Int)∈rdyL c s n:=List.mem_map.2 ⟨q,List.mem_filter.2 ⟨List.mem_range.2 hq,decide_eq_true hne⟩,rfl⟩;rw[h]at this
 cases this
section
variable{w0 w w':World}{p:Nat}{c:Cf}{T:List Tx}{Z:Lay}{s:Ms}
theorem znf(h:RP w0 w p c T Z s)(hW:Wf c T s):Calls Tryz.prog 18 #[.pointer (some ⟨p,0,none⟩)] w fun e w'=>∃so n cc,e=.returned (.slice so n cc)/\IOw w.heap.size w' so n cc (rdyL c s (c.l.toNat+c.s.toNat+2))/\Fr [] w w':=by
 have HT:Hid (Calls ..):=zex h;have c0:=h.c0;obtain⟨N,hN⟩:∃N,c.l.toNat+c.s.toNat+2=N:=⟨_,rfl⟩;have c13:w.cell? ⟨Z.z.mb,13,none⟩=some (.slice (some ⟨Z.z.orB,0,none⟩) N Z.z.orC):=by rw[<-hN];exact h.m.mc rfl
 have hNC:N<=Z.z.orC:=by have:=h.m.st.caps.2.2;omega
 have hNl:N<=100:=by have:=h.m.may;have:=this.1;have:=h.m.may.2.1;omega
 have HR:Hid (∀wr i,Fr [] w wr->i<N->∃ty b cf,wr.cell? ⟨Z.z.orB,i,none⟩=some (.iface ty (.pointer (some ⟨b,0,none⟩)))/\(∀W,(method 609 ty (.pointer (some ⟨b,0,none⟩)) "towpath/replica.can").run Tryz.prog W=.ok (cf,.pointer (some ⟨b,0,none⟩)) W)/\(∀args W,(callFunc cf args).run Tryz.prog W=.ok (.enter cf args) W)/\Hid (Calls Tryz.prog cf #[.pointer (some ⟨b,0,none⟩)] wr fun e w'=>e=.returned (.int .u8 (canT c s i:Int))/\Fr [] wr w'/\(method 609 ty (.pointer (some ⟨b,0,none⟩)) "towpath/replica.number").run Tryz.prog w'=.ok (250,.agg #[.pointer (some ⟨Z.z.mb,0,none⟩),.int .i64 (i:Int)]) w')):=fun wr i hf hi=>by
  have hm:=h.m.quiet hf;refine⟨tyT c i,bT c Z.z i,canF c i,by rw[<-zqe];exact hm.orc (by omega),fun W=>ztw c Z.z i W,zjl c i,?_⟩;refine Calls.mono (zmm hm hW (by omega)) ?_;rintro e w'⟨rfl,hf2⟩;exact⟨rfl,hf2,zabi (hm.quiet hf2) (by omega)⟩
 have HN0:Hid (c.l.toNat+c.s.toNat+2=N):=hN;clear h hN hW;go_enter Tryz.func18,Tryz.ntmps18;go_wp2_with fail
 refine Calls.mono HT.out ?_;rintro e w1⟨rfl,rfl⟩;clear HT;go_wp2_with fail
 go_loopw [3,17] (fun ll ii wr=>∃(i:Nat)(so:Option Addr)(n cc:Nat),ii=.int .i64 i/\i<=N/\ll=.slice so n cc/\Hid (IOw w.heap.size wr so n cc (rdyL c s i))/\n<=i/\Fr [] w wr) (fun _ ii _=>N-(RowKit.intOf ii).toNat)
 case atStart=>exact⟨0,none,0,0,rfl,Nat.zero_le _,rfl,IOw.nil _ _,Nat.le_refl _,Fr.refl _ _⟩
 obtain⟨i,so,n,cc,rfl,hiN,rfl,HO,hni,hF⟩:=hrel;by_cases hi:i<N
 .obtain⟨ty,b,cf,hc,MC,EC,HC⟩:=HR.out wr i hF hi;by_cases h0:canT c s i=0
  .have HS:Hid (rdyL c s (i+1)=rdyL c s i):=zads h0;rw[h0]at HC
   clear h0;go_wp2_with (simp[go_sem,MC,EC])
   refine Calls.mono HC.out ?_;rintro e w2⟨rfl,hf2,_⟩;have HN:Hid (IOw w.heap.size w2 so n cc (rdyL c s (i+1))):=by rw[HS.out];exact HO.out.keep hf2
   have HF2:Hid (Fr [] w w2):=hF.then hf2;clear HO HS hf2 HC EC MC hc;go_wp2_with fail
   go_roundw;case rel=>exact⟨i+1,so,n,cc,rfl,by omega,rfl,HN.out,by omega,HF2.out⟩
   case measure=>first|omega|(simp[RowKit.intOf];omega)|(simp only[RowKit.intOf,RowKit.intOf];omega)
  have HS:Hid (rdyL c s (i+1)=rdyL c s i++[(i:Int)]):=zaam h0;obtain⟨k,hk⟩:∃k:Int,(canT c s i:Int)=k:=⟨_,rfl⟩;rw[hk]at HC
  have hk0:¬k=0:=by omega
  clear h0 hk;go_wp2_with (simp[go_sem,MC,EC])
  refine Calls.mono HC.out ?_;rintro e w2⟨rfl,hf2,MN⟩;have HF2:Hid (Fr [] w w2):=hF.then hf2;have HO2:Hid (∀W,Fr [] w2 W->IOw w.heap.size W so n cc (rdyL c s i)):=fun W hf=>(HO.out.keep hf2).keep hf;clear HO hf2 HC EC MC hc;go_wp2_with (simp[go_sem,MN])
  refine (zkz _ _ _).mono ?_;rintro e w3⟨rfl,hf3⟩;have HF3:Hid (Fr [] w w3):=HF2.out.then hf3;have HO3:Hid (∀W,Fr [] w3 W->IOw w.heap.size W so n cc (rdyL c s i)):=fun W hf=>HO2.out W (hf3.then hf);have HB:Hid (∀W W',Fr [] w3 W->Fr (Value.slice so n cc).ownBlock.toList W W'->Fr [] w W'):=fun W W' h1 h2=>(HO3.out w3 (Fr.refl _ _)).on (Nat.le_refl _) HF3.out h1 h2;clear hf3 HO2 HF2 MN;go_wp2_with (first
   |(
    at_builtin;refine zen w.heap.size _ rfl _ _ rfl so n cc _ rfl (HO3.out _ (Fr.alloc [] _ _)) _ _ (i:Int) rfl ?hcell (by omega) ?hsize ?_
    case hcell=>exact zet _ _ _
    case hsize=>have:=HF3.out.size;simp;omega
    intro o' c' w4 hO4 hF4 _;have HR3:Hid (_/\_):=⟨hO4,HB.out _ _ (Fr.alloc [] _ _) hF4⟩;clear hO4 hF4;go_frame)
   |fail)
  go_roundw;case rel=>exact⟨i+1,o',n+1,c',rfl,by omega,rfl,(by rw[HS.out];exact HR3.out.1),by omega,HR3.out.2⟩
  case measure=>first|omega|(simp[RowKit.intOf];omega)|(simp only[RowKit.intOf,RowKit.intOf];omega)
 obtain rfl:i=N:=by omega
 go_wp2;go_ret;exact⟨so,n,cc,rfl,by rw[HN0.out];exact HO.out,hF⟩
end
section
variable{w0 w w':World}{p:Nat}{c:Cf}{T:List Tx}{Z:Lay}{s:Ms}
theorem zec{fn:Func}{p q:Tmp}{ty:TypeId}(h:fn.results= #[.cell p ty,.tmp q])(tmps:Array Value)(P:Program)(w:World)(g:Nat)(v:Value)(hp:tmps.getD p undef=.pointer (some ⟨g,0,none⟩))(hld:(loadVar ty ⟨g,0,none⟩).run P w=.ok v w) :
  (results fn tmps).run P w=.ok (.tuple #[v,tmps.getD q undef]) w:=by
 simp only[results,h];simp[Sem.run_bind,Result.andThen,<-Array.getD_eq_getD_getElem?,hp,asAddr,hld]
def SpP(w0:World)(c:Cf)(T:List Tx)(w:World)(Z:Lay)(s:Ms)(e:Ending)(w':World):Prop:=∃t k n sh ct m s',e=.returned (.tuple #[evV t k n sh ct m,.int .i64 0])/\(∃Z',Dn w0 c T w Z s w' Z' s'/\Z'.nr=s'.d)/\Nxt c T s s'
theorem zxo(h:RP w0 w p c T Z s)(hnr:Z.nr=s.d)(hW:Wf c T s)(hk:s.k<16000000){q:Nat}(hq:q<c.l.toNat+c.s.toNat+2)(hne:canT c s q≠0):Calls Tryz.prog 19 #[.pointer (some ⟨p,0,none⟩),.int .i64 (q:Int)] w fun e w'=>SpP w0 c T w Z s e w':=by
 obtain⟨w1,HW1⟩:∃w1,Hid (w.alloc (.cells #[.int .i64 0,.int .u8 0,.int .i64 0,.int .i64 0,.int .i64 0,.int .i64 0] 35)=w1):=⟨_,rfl⟩;obtain⟨A,HA⟩:∃A,Hid (w.heap.size=A):=⟨_,rfl⟩;have hF1:Fr [] w w1:=by rw[<-HW1.out];exact Fr.alloc _ _ _
 have hBx:Bx w0 c T w1 Z s A:=by rw[<-HW1.out,<-HA.out];exact Bx.new h.m
 have h1:=h.quiet hF1;have HT:Hid (Calls ..):=zex h1;have HFd:Hid (Calls ..):=zqa h1.m hq;have c0:w1.cell? ⟨p,0,none⟩=some (.pointer (some ⟨Z.z.mb,0,none⟩)):=h1.c0;obtain⟨ty,hty⟩:∃ty,tyT c q=ty:=⟨_,rfl⟩;obtain⟨b,hb⟩:∃b,bT c Z.z q=b:=⟨_,rfl⟩;obtain⟨cf,hcf⟩:∃f,canF c q=f:=⟨_,rfl⟩;obtain⟨k,hkk⟩:∃k:Int,(canT c s q:Int)=k:=⟨_,rfl⟩;have hk0:¬k=0:=by omega
 rw[zqe,hty,hb]at HFd
 have MC:∀W,(method 609 ty (.pointer (some ⟨b,0,none⟩)) "towpath/replica.can").run Tryz.prog W=.ok (cf,.pointer (some ⟨b,0,none⟩)) W:=fun W=>by rw[<-hty,<-hb,<-hcf];exact ztw c Z.z q W
 have EC:∀args W,(callFunc cf args).run Tryz.prog W=.ok (.enter cf args) W:=by rw[<-hcf];exact zjl c q
 have HC1:Hid (∀W,Fr [] w1 W->W.cell? ⟨p,0,none⟩=some (.pointer (some ⟨Z.z.mb,0,none⟩))/\Hid (Calls Tryz.prog cf #[.pointer (some ⟨b,0,none⟩)] W fun e w'=>e=.returned (.int .u8 k)/\Fr [] W w')):=fun W hf=>by
  refine⟨(h1.quiet hf).c0,?_⟩;have:=zmm (h1.m.quiet hf) hW hq;rw[hcf,hb,hkk]at this
  exact this
 have HC2:Hid (∀W,Fr [] w1 W->W.cell? ⟨p,0,none⟩=some (.pointer (some ⟨Z.z.mb,0,none⟩))/\Hid (Calls Tryz.prog 36 #[.pointer (some ⟨Z.z.mb,0,none⟩),.iface ty (.pointer (some ⟨b,0,none⟩))] W fun e w3=>∃t k n sh ct m s',e=.returned (.agg #[.int .i64 t,.int .u8 k,.int .i64 n,.int .i64 sh,.int .i64 ct,.int .i64 m])/\Evx w3 A 0 0 0 0 0 0/\Hid ((∀W',Fr [A] w3 W'->∃Z',Dn w0 c T w Z s W' Z' s'/\Z'.nr=s'.d)/\Nxt c T s s'))):=fun W hf=>by
  refine⟨(h1.quiet hf).c0,?_⟩;have:=zadr (h1.m.quiet hf) hnr hW hk hq hne;rw[hty,hb]at this
  refine Calls.mono this ?_;rintro e w3⟨s',n,sh,ct,rfl,⟨Z',hD,hnr'⟩,hN⟩;have hD1:=(h1.m.dn hf).trans hD;exact⟨_,_,_,_,_,_,s',rfl,(hBx.then hD1).box,fun W' hf'=>⟨Z',hD1.fin h.m hF1 (by rw[HA.out];exact Nat.le_refl _) hBx hf',hnr'⟩,hN⟩
 clear h hnr hW hq hne hF1 hBx h1 hty hb hcf hkk;go_enter Tryz.func19,Tryz.ntmps19;go_upto_region 1 with fail
 rw[HW1.out,HA.out];clear HW1 HA;go_wp2_with fail
 refine Calls.mono HT.out ?_;rintro e w2⟨rfl,rfl⟩;clear HT;go_wp2_with fail
 refine Calls.mono HFd.out ?_;rintro e w2⟨rfl,hf2⟩;obtain⟨d0,HCC⟩:=HC1.out w2 hf2;have HF2:Hid (Fr [] w1 w2):=hf2;clear HFd HC1 hf2 c0;go_wp2_with (simp[go_sem,MC,EC])
 refine Calls.mono HCC.out ?_;rintro e w3⟨rfl,hf3⟩;obtain⟨e0,HCA⟩:=HC2.out w3 (HF2.out.then hf3);clear HC2 HF2 hf3 HCC MC EC d0;go_wp2_with fail
 refine Calls.mono HCA.out ?_;rintro e w4⟨t,k',n,sh,ct,m,s',rfl,hA,HR⟩;clear HCA e0;have hA:w4.heap[A]? = some (.cells #[.int .i64 0,.int .u8 0,.int .i64 0,.int .i64 0,.int .i64 0,.int .i64 0] 35 (0,0)):=hA;go_wp2_with (first
  |(refine zag rfl _ _ rfl A t k' n sh ct m rfl rfl 0 0 0 0 0 0 hA ?_;intro w5 hw5 hf5;have HF5:Hid _:=HR.out.1 w5 hf5;clear hf5)
  |fail)
 refine bodyPost_ret (zec rfl _ _ _ A _ rfl (zbv hw5.out)) rfl ?_;exact⟨t,k',n,sh,ct,m,s',rfl,HF5.out,HR.out.2⟩
end
section
variable{w0 w w':World}{p:Nat}{c:Cf}{T:List Tx}{Z:Lay}{s:Ms}
theorem zng(h:RP w0 w p c T Z s)(hW:Wf c T s)(n:Int)(hr:rdyL c s (c.l.toNat+c.s.toNat+2)=[]):Calls Tryz.prog 6 #[.pointer (some ⟨p,0,none⟩),.int .i64 n] w fun e w'=>e=.returned (.tuple #[.agg #[.int .i64 0,.int .u8 0,.int .i64 0,.int .i64 0,.int .i64 0,.int .i64 0],.int .i64 9])/\Fr [] w w':=by
 obtain⟨w1,HW1⟩:∃w1,Hid (w.alloc (.cells #[.int .i64 0,.int .u8 0,.int .i64 0,.int .i64 0,.int .i64 0,.int .i64 0] 35)=w1):=⟨_,rfl⟩;obtain⟨A,HA⟩:∃A,Hid (w.heap.size=A):=⟨_,rfl⟩;have hF1:Fr [] w w1:=by rw[<-HW1.out];exact Fr.alloc _ _ _
 have hb1:Evx w1 A 0 0 0 0 0 0:=by rw[<-HW1.out,<-HA.out];exact heap_alloc_new _ _
 have h1:=h.quiet hF1;have HT:Hid (Calls ..):=zex h1;have HR:Hid (Calls Tryz.prog 18 #[.pointer (some ⟨p,0,none⟩)] w1 fun e w'=>∃so cc,e=.returned (.slice so 0 cc)/\w'.heap[A]? = some (.cells #[.int .i64 0,.int .u8 0,.int .i64 0,.int .i64 0,.int .i64 0,.int .i64 0] 35 (0,0))/\Hid (∀W',Fr [A] w' W'->Fr [] w W')):=by
  refine (znf h1 hW).mono ?_;rintro e w'⟨so,m,cc,rfl,hI,hf⟩;rw[hr]at hI
  have hm:m=0:=hI.len;subst hm;exact⟨so,cc,rfl,hf.keep hb1 (by simp),fun W' hf'=>(hF1.then hf).on hf' (fun x hx=>by simp at hx;have:=HA.out;omega)⟩
 clear h hW hr hF1 hb1 h1;go_enter Tryz.func6,Tryz.ntmps6;go_upto_region 1 with fail
 rw[HW1.out,HA.out];clear HW1 HA;go_wp2_with fail
 refine Calls.mono HT.out ?_;rintro e w2⟨rfl,rfl⟩;clear HT;go_wp2_with fail
 refine Calls.mono HR.out ?_;rintro e w2⟨so,cc,rfl,hb2,HF⟩;clear HR;go_wp2_with (first
  |(refine zag rfl _ _ rfl A 0 0 0 0 0 0 rfl rfl 0 0 0 0 0 0 hb2 ?_;intro w5 hw5 hf5;have HF5:Hid _:=HF.out w5 hf5;clear hf5)
  |fail)
 refine bodyPost_ret (zec rfl _ _ _ A _ rfl (zbv hw5.out)) rfl ?_;exact⟨rfl,HF5.out⟩
def zlu(n:Int)(m:Nat):Nat:=if n.tmod m<0 then (n.tmod m+m).toNat else (n.tmod m).toNat
theorem zxp(n:Int){m:Nat}(hm:0<m):zlu n m<m:=by
 have h1:=Int.tmod_lt_of_pos n (show (0:Int)<m by omega);have h2: -(m:Int)<n.tmod m:=by
  have:=Int.tmod_lt_of_pos (-n) (show (0:Int)<m by omega);rw[Int.neg_tmod]at this
  omega
 unfold zlu;split<;>omega
theorem zsi(h:RP w0 w p c T Z s)(hnr:Z.nr=s.d)(hW:Wf c T s)(hk:s.k<16000000)(n:Int)(hn:i64 n)(hr:rdyL c s (c.l.toNat+c.s.toNat+2)≠[]):Calls Tryz.prog 6 #[.pointer (some ⟨p,0,none⟩),.int .i64 n] w fun e w'=>SpP w0 c T w Z s e w':=by
 obtain⟨w1,HW1⟩:∃w1,Hid (w.alloc (.cells #[.int .i64 0,.int .u8 0,.int .i64 0,.int .i64 0,.int .i64 0,.int .i64 0] 35)=w1):=⟨_,rfl⟩;obtain⟨A,HA⟩:∃A,Hid (w.heap.size=A):=⟨_,rfl⟩;have hF1:Fr [] w w1:=by rw[<-HW1.out];exact Fr.alloc _ _ _
 have hBx:Bx w0 c T w1 Z s A:=by rw[<-HW1.out,<-HA.out];exact Bx.new h.m
 have h1:=h.quiet hF1;have HT:Hid (Calls ..):=zex h1;obtain⟨M,hM⟩:∃M,(rdyL c s (c.l.toNat+c.s.toNat+2)).length=M:=⟨_,rfl⟩;have hM0:0<M:=by rw[<-hM];exact List.length_pos_iff.2 hr
 have hMl:M<=100:=by
  have e:(rdyL c s (c.l.toNat+c.s.toNat+2)).length<=c.l.toNat+c.s.toNat+2:=by
   unfold rdyL;rw[List.length_map];exact Nat.le_trans (List.length_filter_le _ _) (by rw[List.length_range];exact Nat.le_refl _)
  have:=h.m.may.1;have:=h.m.may.2.1;omega
 have hpl:=zxp n hM0;obtain⟨K,hK⟩:∃K,zlu n M=K:=⟨_,rfl⟩;rw[hK]at hpl
 obtain⟨q,hqe,hq,hne⟩:=zaan (c:=c) (s:=s) (n:=c.l.toNat+c.s.toNat+2) (x:=(rdyL c s (c.l.toNat+c.s.toNat+2)).getD K 0) (by
  have:K<(rdyL c s (c.l.toNat+c.s.toNat+2)).length:=by omega
  rw[show (rdyL c s (c.l.toNat+c.s.toNat+2)).getD K 0=(rdyL c s (c.l.toNat+c.s.toNat+2))[K] by simp[List.getD,this]];exact List.getElem_mem this)
 have HR:Hid (Calls Tryz.prog 18 #[.pointer (some ⟨p,0,none⟩)] w1 fun e w'=>∃g cc,e=.returned (.slice (some ⟨g,0,none⟩) M cc)/\M<=cc/\w'.cell? ⟨g,K,none⟩=some (.int .i64 (q:Int))/\Hid (Calls Tryz.prog 19 #[.pointer (some ⟨p,0,none⟩),.int .i64 (q:Int)] w' fun e w3=>∃t k n sh ct m s',e=.returned (.tuple #[.agg #[.int .i64 t,.int .u8 k,.int .i64 n,.int .i64 sh,.int .i64 ct,.int .i64 m],.int .i64 0])/\w3.heap[A]? = some (.cells #[.int .i64 0,.int .u8 0,.int .i64 0,.int .i64 0,.int .i64 0,.int .i64 0] 35 (0,0))/\Hid ((∀W',Fr [A] w3 W'->∃Z',Dn w0 c T w Z s W' Z' s'/\Z'.nr=s'.d)/\Nxt c T s s'))):=by
  refine (znf h1 hW).mono ?_;rintro e w'⟨so,m,cc,rfl,hI,hf⟩;have hm:m=M:=by rw[hI.len,hM]
  subst hm;obtain⟨g,hg,_,_,hcl⟩:=hI.cells hM0;subst hg;refine⟨g,cc,rfl,hI.cap,?_,?_⟩
  .rw[hcl K hpl,hqe]
  refine Calls.mono (zxo (h1.quiet hf) hnr hW hk hq hne) ?_;rintro e w3⟨t,k,n',sh,ct,m',s',rfl,⟨Z',hD,hnr'⟩,hN⟩;have hD1:=(h1.m.dn hf).trans hD;exact⟨t,k,n',sh,ct,m',s',rfl,(hBx.then hD1).box,fun W' hf'=>⟨Z',hD1.fin h.m hF1 (by rw[HA.out];exact Nat.le_refl _) hBx hf',hnr'⟩,hN⟩
 obtain⟨R,hR⟩:∃R:Int,n.tmod (M:Int)=R:=⟨_,rfl⟩;have hRb: -(M:Int)<R/\R<M:=by
  have h1:=Int.tmod_lt_of_pos n (show (0:Int)<M by omega);have h2:=Int.tmod_lt_of_pos (-n) (show (0:Int)<M by omega);rw[Int.neg_tmod]at h2
  omega
 unfold zlu at hK;rw[hR]at hK
 clear h hnr hW hr hq hne hqe hF1 hBx h1 hk hM;by_cases hneg:R<0
 .rw[if_pos hneg]at hK
  have hsum:R+(M:Int)=(K:Int):=by omega
  have hwr:wrap64 (R+(M:Int))=(K:Int):=by rw[hsum];unfold wrap64;omega
  clear hK hRb hsum;go_enter Tryz.func6,Tryz.ntmps6;go_upto_region 1 with fail
  rw[HW1.out,HA.out];clear HW1 HA;go_wp2_with fail
  refine Calls.mono HT.out ?_;rintro e w2⟨rfl,rfl⟩;clear HT;go_wp2_with fail
  refine Calls.mono HR.out ?_;rintro e w2⟨g,cc,rfl,hcc,hcell,HS⟩;clear HR;go_wp2_with fail
  refine Calls.mono HS.out ?_;rintro e w4⟨t,k',n',sh,ct,m,s',rfl,hA,HF⟩;clear HS hcell;go_wp2_with (first
   |(refine zag rfl _ _ rfl A t k' n' sh ct m rfl rfl 0 0 0 0 0 0 hA ?_;intro w5 hw5 hf5;have HF5:Hid _:=HF.out.1 w5 hf5;clear hf5)
   |fail)
  refine bodyPost_ret (zec rfl _ _ _ A _ rfl (zbv hw5.out)) rfl ?_;exact⟨t,k',n',sh,ct,m,s',rfl,HF5.out,HF.out.2⟩
 rw[if_neg hneg]at hK
 have hRK:R=(K:Int):=by omega
 subst hRK;clear hK hRb hneg;go_enter Tryz.func6,Tryz.ntmps6;go_upto_region 1 with fail
 rw[HW1.out,HA.out];clear HW1 HA;go_wp2_with fail
 refine Calls.mono HT.out ?_;rintro e w2⟨rfl,rfl⟩;clear HT;go_wp2_with fail
 refine Calls.mono HR.out ?_;rintro e w2⟨g,cc,rfl,hcc,hcell,HS⟩;clear HR;go_wp2_with fail
 refine Calls.mono HS.out ?_;rintro e w4⟨t,k',n',sh,ct,m,s',rfl,hA,HF⟩;clear HS hcell;go_wp2_with (first
  |(refine zag rfl _ _ rfl A t k' n' sh ct m rfl rfl 0 0 0 0 0 0 hA ?_;intro w5 hw5 hf5;have HF5:Hid _:=HF.out.1 w5 hf5;clear hf5)
  |fail)
 refine bodyPost_ret (zec rfl _ _ _ A _ rfl (zbv hw5.out)) rfl ?_;exact⟨t,k',n',sh,ct,m,s',rfl,HF5.out,HF.out.2⟩
end
section
variable{w0 w w':World}{p:Nat}{c:Cf}{T:List Tx}{Z:Lay}{s:Ms}
def zbu(T:List Tx)(fd:Nat)(n:Int):Nat:=if n<fd\/(T.length:Int)<n then fd else n.toNat
theorem MaM.moreF(h:MaM w0 w c T Z s)(n:Int):Calls Tryz.prog 33 #[.pointer (some ⟨Z.z.fb,0,none⟩),.int .i64 n] w fun e w'=>(∃v,e=.returned v/\∃k:Int,v=.int .i64 k)/\Dn w0 c T w Z s w' {Z with v:=Z.v,hw:=Z.hw} {s with fd:=zbu T s.fd n}:=by
 have hfe:=h.fe;have hm:=hfe.m;have hlen:T.length=Z.y.ts.length:=by rw[<-h.log,zau]
 refine (F.fMore_any hm n).mono ?_;rintro e w'⟨rfl,k1,k2⟩;have hms:(⟨s.rd,s.fd,c.w.toNat,s.hv,false⟩:F.Fe).moreS Z.y.ts.length n=⟨s.rd,zbu T s.fd n,c.w.toNat,s.hv,false⟩:=by
  unfold F.Fe.moreS F.Fe.moreC zbu;rw[hlen];simp only[Bool.false_eq_true,if_false];split
  .rw[if_neg (by decide)]
  rw[if_pos rfl]
 rw[hms]at k1
 refine⟨⟨_,rfl,_,rfl⟩,?_⟩;have hd:=h.setFe k2 (fun b hb _=> ?_) (v':=Z.v) (hw':=Z.hw) (rd:=s.rd) (fd:=zbu T s.fd n) (hv:=s.hv) (k:=s.k) ⟨k1,hfe.f0,hfe.g0,hfe.l0,hfe.m0,hfe.t0,Nat.le_trans hfe.b0 k2.size,fun k hk=>⟨(hfe.h0 k hk).1,Nat.lt_of_lt_of_le (hfe.h0 k hk).2 k2.size⟩,hfe.hB⟩ (fun b hb=>Or.inl hb) (Nat.le_refl _)
 .exact hd
 rw[List.mem_singleton.1 hb];exact Or.inl ⟨hm.fn,hfe.f0⟩
theorem zxq(h:RP w0 w p c T Z s)(n:Int):Calls Tryz.prog 16 #[.pointer (some ⟨p,0,none⟩),.int .i64 n] w fun e w'=>(∃v,e=.returned v)/\Dn w0 c T w Z s w' {Z with v:=Z.v,hw:=Z.hw} {s with fd:=zbu T s.fd n}:=by
 have HT:Hid (Calls ..):=zex h;have c0:=h.c0;have c5:w.cell? ⟨Z.z.mb,5,none⟩=some (.pointer (some ⟨Z.z.fb,0,none⟩)):=h.m.mc rfl;have HM:Hid (Calls ..):=h.m.moreF n;clear h;go_enter Tryz.func16,Tryz.ntmps16;go_wp2_with fail
 refine Calls.mono HT.out ?_;rintro e w1⟨rfl,rfl⟩;go_wp2_with fail
 refine Calls.mono HM.out ?_;rintro e w1⟨⟨_,rfl,k,rfl⟩,hD⟩;have HD:Hid (Dn _ _ _ _ _ _ _ _ _):=hD;clear hD;go_wp2;go_ret;exact⟨⟨_,rfl⟩,HD.out⟩
theorem Wf.feed(h:Wf c T s)(n:Int):Wf c T {s with fd:=zbu T s.fd n}:=by
 have hf:=h.fdl;have h1:s.fd<=zbu T s.fd n/\zbu T s.fd n<=T.length:=by
  unfold zbu;split<;>omega
 exact {h with fdl:=⟨by show s.rd<=zbu T s.fd n;omega,h1.2⟩}
end
section
variable{w0 w w':World}{p:Nat}{c:Cf}{T:List Tx}{Z:Lay}{s:Ms}
theorem zik(hW:Wf c T s)(hr:rdyL c s (c.l.toNat+c.s.toNat+2)=[]):s.hv=false/\s.rd=s.fd/\s.d=s.fd/\s.ma=(s.fd:Int)/\(∀n,¬Opn T s n)/\∀n,s.en n↔1<=n/\n<=(s.fd:Int):=by
 have hn:=zaao hr;refine hW.idle (zxl hW.may) ?_ (fun i hi=> ?_) (fun j hj=> ?_) ?_
 .have:=hn 0 (by omega);unfold canT at this
  rwa [if_pos rfl]at this
 .have:=hn (i+1) (by omega);unfold canT at this;rw[if_neg (by omega),if_pos (by omega)]at this
  simpa using this
 .have:=hn (c.l.toNat+1+j) (by omega);unfold canT at this;rw[if_neg (by omega),if_neg (by omega),if_pos (by omega),show c.l.toNat+1+j-c.l.toNat-1=j by omega]at this
  exact this
 have:=hn (c.l.toNat+c.s.toNat+1) (by omega);unfold canT at this;rw[if_neg (by omega),if_neg (by omega),if_neg (by omega)]at this
 exact this
theorem zaap(h:MaM w0 w c T Z s)(hW:Wf c T s)(hk:s.k<16000000)(hr:rdyL c s (c.l.toNat+c.s.toNat+2)=[]):Calls Tryz.prog 22 #[.pointer (some ⟨Z.z.mb,0,none⟩)] w fun e w'=>e=.returned (.bool true)/\Fr [] w w':=by
 obtain⟨i1,i2,i3,i4,i5,i6⟩:=zik hW hr;have hmay:=h.may;have hcan:canD c s=0:=by unfold canD;rw[if_pos i1,if_neg (by omega)]
 have c5:∀y:Wq w,y.W.cell? ⟨Z.z.mb,5,none⟩=some (.pointer (some ⟨Z.z.fb,0,none⟩)):=fun y=>(h.quiet y.h).mc rfl;have c12:∀y:Wq w,y.W.cell? ⟨Z.z.mb,12,none⟩=some (.pointer (some ⟨Z.z.gb,0,none⟩)):=fun y=>(h.quiet y.h).mc rfl;have HM:∀y:Wq w,Calls Tryz.prog 23 #[.pointer (some ⟨Z.z.gb,0,none⟩)] y.W fun e w'=>e=.returned (.int .i64 s.ma)/\Fr [] y.W w':=fun y=>zfl (h.quiet y.h).ga;have HC:∀y:Wq w,Calls Tryz.prog 43 #[.pointer (some ⟨Z.z.fb,0,none⟩),.int .i64 s.ma] y.W fun e w'=>e=.returned (.int .u8 0)/\Fr [] y.W w':=fun y=>by
  have:=F.fCan_any (h.quiet y.h).fe.m s.ma;rw[zwx h.may,hcan]at this
  exact this
 have HH:∀y:Wq w,Calls Tryz.prog 42 #[.pointer (some ⟨Z.z.fb,0,none⟩)] y.W fun e w'=>e=.returned (.int .i64 0)/\Fr [] y.W w':=fun y=>by
  refine (F.fHeld_any (h.quiet y.h).fe.m).mono ?_;rintro e w'⟨rfl,rfl⟩;refine⟨?_,Fr.refl _ _⟩;simp[F.Fe.num,i1]
 have HO:∀y:Wq w,Calls Tryz.prog 44 #[.pointer (some ⟨Z.z.tb,0,none⟩)] y.W fun e w'=>∃so cc,e=.returned (.slice so 0 cc)/\Fr [] y.W w':=fun y=>by
  have hM:=h.quiet y.h;refine (zabn y.W hM.de (by have:=hM.few.1;omega)).mono ?_;rintro e w'⟨so,N,cc,ys,rfl,hI,_,hmem,hf⟩;have hy:ys=[]:=List.eq_nil_iff_forall_not_mem.2 fun x hx=>i5 x ((hmem x).1 hx);subst hy;have hN:N=0:=hI.len;subst hN;exact⟨so,cc,rfl,hf⟩
 have HCx:Hid (∀W,Fr [] w W->W.cell? ⟨Z.z.mb,6,none⟩=some (.pointer (some ⟨Z.z.tb,0,none⟩))/\W.cell? ⟨Z.z.mb,14,none⟩=some (.slice none 0 0)):=fun W hf=>⟨(h.quiet hf).mc rfl,(h.quiet hf).mc rfl⟩;have HOx:Hid (∀W,Fr [] w W->Calls Tryz.prog 44 #[.pointer (some ⟨Z.z.tb,0,none⟩)] W fun e w'=>∃so cc,e=.returned (.slice so 0 cc)/\Fr [] W w'):=fun W hf=>HO ⟨W,hf⟩;clear HO;clear h hW hr i1 i2 i3 i4 i5 i6 hcan;go_enter Tryz.func22,Tryz.ntmps22;go_wp2_with fail
 refine zeb (w1:=w) (by kernel_rfl) (by kernel_rfl) (Fr.refl _ _) ?_
 repeat (go_big_quiet_step (first
  |(go_at_call 23;with_reducible refine (HM _).mono ?_;exact fun e w3 hh=>⟨hh.1,⟨_,Fr.then (Wq.h _) hh.2⟩,rfl⟩)
  |(go_at_call 42;with_reducible refine (HH _).mono ?_;exact fun e w3 hh=>⟨hh.1,⟨_,Fr.then (Wq.h _) hh.2⟩,rfl⟩)
  |(go_at_call 43;with_reducible refine (HC _).mono ?_;exact fun e w3 hh=>⟨hh.1,⟨_,Fr.then (Wq.h _) hh.2⟩,rfl⟩)
  |simp[go_sem,c5,c12]))
 refine wpQuiet_nil ?_;rintro _⟨z,rfl⟩;have HZ:Hid (Fr [] w z.W):=z.h;obtain⟨wz,HWZ⟩:∃wz,wz=z.W:=⟨_,rfl⟩;rw[<-HWZ]at HZ ⊢
 clear HWZ z c5 c12 HM HC HH;obtain⟨c6,_⟩:=HCx.out wz HZ.out;have HO1:Hid (Calls ..):=HOx.out wz HZ.out;go_wp2_with fail
 refine Calls.mono HO1.out ?_;rintro e w3⟨so,cc,rfl,hf3⟩;obtain⟨_,c14⟩:=HCx.out w3 (HZ.out.then hf3);have HF3:Hid (Fr [] w w3):=HZ.out.then hf3;clear hf3 HO1 HOx HCx c6 HZ;go_wp2;go_ret;exact⟨rfl,HF3.out⟩
theorem zaaq(h:RP w0 w p c T Z s)(hW:Wf c T s)(hk:s.k<16000000)(hr:rdyL c s (c.l.toNat+c.s.toNat+2)=[]):Calls Tryz.prog 9 #[.pointer (some ⟨p,0,none⟩)] w fun e w'=>e=.returned (.bool true)/\Fr [] w w':=by
 have HT:Hid (Calls ..):=zgr h;have c0:=h.c0;have c18:w.cell? ⟨Z.z.mb,18,none⟩=some (.bool false):=h.m.mc rfl;have HD:Hid (Calls ..):=zaap h.m hW hk hr;clear h hW hk hr;go_enter Tryz.func9,Tryz.ntmps9;go_wp2_with fail
 refine Calls.mono HT.out ?_;rintro e w2⟨rfl,rfl⟩;go_wp2_with fail
 refine Calls.mono HD.out ?_;rintro e w3⟨rfl,hf⟩;have HF:Hid (Fr [] w w3):=hf;clear hf;go_wp2;go_ret;exact⟨rfl,HF.out⟩
end
end
end Go.Proofs.YtakbodlicfmkjaaGreat
