/- Contracts and plain lemmas of this claim. -/
import Derived.Test.YtaaghcimfcjehaaGreatDoorGp33
import Derived.Test.YtaaghcimfcjehaaGreatDoorGp29
set_option linter.unusedSimpArgs false
set_option linter.unusedVariables false
namespace Go.Proofs.YtaaghcimfcjehaaGreatDoor.Rl
open Go.ChangeShapes Go.WideShapes Go.ChangeAt Go.RowKit Go.Lib Go.Maps
def n0:Oper:={ dst:=some 103,op:=Op.move (Operand.tmp 0),type:=80,pos:= "ref.go:163",after:= #[],guard:=none }
def n1:Oper:={ dst:=some 104,op:=Op.nilCheck (Operand.tmp 103),type:=0,pos:= "ref.go:163",after:= #[{ on:=0,ground:=Ground.data }],guard:=none }
def n2:Oper:={ dst:=some 105,op:=Op.fieldAddr 87 (Operand.tmp 104) 10,type:=0,pos:= "ref.go:163",after:= #[{ on:=1,ground:=Ground.data }],guard:=none }
def n3:Oper:={ dst:=some 106,op:=Op.load 84 (Operand.tmp 105),type:=84,pos:= "ref.go:163",after:= #[{ on:=2,ground:=Ground.data }],guard:=none }
def n4:Oper:={ dst:=some 107,op:=Op.move (Operand.tmp 8),type:=3,pos:= "ref.go:163",after:= #[],guard:=none }
def n5:Oper:={ dst:=some 108,op:=Op.move (Operand.tmp 0),type:=80,pos:= "ref.go:163",after:= #[],guard:=none }
def n6:Oper:={ dst:=some 109,op:=Op.nilCheck (Operand.tmp 108),type:=0,pos:= "ref.go:163",after:= #[{ on:=5,ground:=Ground.data }],guard:=none }
def n7:Oper:={ dst:=some 110,op:=Op.fieldAddr 87 (Operand.tmp 109) 10,type:=0,pos:= "ref.go:163",after:= #[{ on:=6,ground:=Ground.data }],guard:=none }
def n8:Oper:={ dst:=some 111,op:=Op.load 84 (Operand.tmp 110),type:=84,pos:= "ref.go:163",after:= #[{ on:=7,ground:=Ground.data }],guard:=none }
def n9:Oper:={ dst:=some 112,op:=Op.move (Operand.tmp 8),type:=3,pos:= "ref.go:163",after:= #[],guard:=none }
def n10:Oper:={ dst:=some 113,op:=Op.indexAddr 84 (Operand.tmp 111) (Operand.tmp 112),type:=0,pos:= "ref.go:163",after:= #[{ on:=8,ground:=Ground.data },{ on:=9,ground:=Ground.data }],guard:=none }
def n11:Oper:={ dst:=some 114,op:=Op.load 208 (Operand.tmp 113),type:=208,pos:= "ref.go:163",after:= #[{ on:=10,ground:=Ground.data }],guard:=none }
def n12:Oper:={ dst:=some 115,op:=Op.fieldAddr 62 (Operand.tmp 3) 0,type:=0,pos:= "ref.go:163",after:= #[],guard:=none }
def n13:Oper:={ dst:=some 116,op:=Op.load 3 (Operand.tmp 115),type:=3,pos:= "ref.go:163",after:= #[{ on:=12,ground:=Ground.data }],guard:=none }
def n14:Oper:={ dst:=some 117,op:=Op.move (Operand.tmp 6),type:=213,pos:= "ref.go:163",after:= #[],guard:=none }
def n15:Oper:={ dst:=some 118,op:=Op.nilCheck (Operand.tmp 117),type:=0,pos:= "ref.go:163",after:= #[{ on:=14,ground:=Ground.data }],guard:=none }
def n16:Oper:={ dst:=some 119,op:=Op.fieldAddr 215 (Operand.tmp 118) 0,type:=0,pos:= "ref.go:163",after:= #[{ on:=15,ground:=Ground.data }],guard:=none }
def n17:Oper:={ dst:=some 120,op:=Op.fieldAddr 66 (Operand.tmp 119) 0,type:=0,pos:= "ref.go:163",after:= #[{ on:=16,ground:=Ground.data }],guard:=none }
def n18:Oper:={ dst:=some 121,op:=Op.load 3 (Operand.tmp 120),type:=3,pos:= "ref.go:163",after:= #[{ on:=17,ground:=Ground.data }],guard:=none }
def n19:Oper:={ dst:=some 122,op:=Op.build 210 #[(0,Operand.tmp 116),(1,Operand.tmp 121)],type:=210,pos:= "ref.go:163",after:= #[{ on:=13,ground:=Ground.data },{ on:=18,ground:=Ground.data }],guard:=none }
def n20:Oper:={ dst:=some 123,op:=Op.buildSlice 208 1 #[(0,Operand.tmp 122)],type:=208,pos:= "ref.go:163",after:= #[{ on:=19,ground:=Ground.data }],guard:=none }
def n21:Oper:={ dst:=some 124,op:=Op.call { callee:=Callee.builtin Builtin.append,args:= #[Operand.tmp 114,Operand.tmp 123],argTypes:= #[208,208] },type:=208,pos:= "ref.go:163",after:= #[{ on:=11,ground:=Ground.data },{ on:=20,ground:=Ground.data }],guard:=none }
def n22:Oper:={ dst:=some 125,op:=Op.indexAddr 84 (Operand.tmp 106) (Operand.tmp 107),type:=0,pos:= "ref.go:163",after:= #[{ on:=3,ground:=Ground.data },{ on:=4,ground:=Ground.data },{ on:=0,ground:=Ground.phase },{ on:=1,ground:=Ground.phase },{ on:=2,ground:=Ground.phase },{ on:=3,ground:=Ground.phase },{ on:=4,ground:=Ground.phase },{ on:=5,ground:=Ground.phase },{ on:=6,ground:=Ground.phase },{ on:=7,ground:=Ground.phase },{ on:=8,ground:=Ground.phase },{ on:=9,ground:=Ground.phase },{ on:=10,ground:=Ground.phase },{ on:=11,ground:=Ground.phase },{ on:=12,ground:=Ground.phase },{ on:=13,ground:=Ground.phase },{ on:=14,ground:=Ground.phase },{ on:=15,ground:=Ground.phase },{ on:=16,ground:=Ground.phase },{ on:=17,ground:=Ground.phase },{ on:=18,ground:=Ground.phase },{ on:=19,ground:=Ground.phase },{ on:=20,ground:=Ground.phase },{ on:=21,ground:=Ground.phase }],guard:=none }
def n23:Oper:={ dst:=none,op:=Op.store 208 (Operand.tmp 125) (Operand.tmp 124),type:=0,pos:= "ref.go:163",after:= #[{ on:=22,ground:=Ground.data },{ on:=21,ground:=Ground.data },{ on:=21,ground:=Ground.chain },{ on:=0,ground:=Ground.phase },{ on:=1,ground:=Ground.phase },{ on:=2,ground:=Ground.phase },{ on:=3,ground:=Ground.phase },{ on:=4,ground:=Ground.phase },{ on:=5,ground:=Ground.phase },{ on:=6,ground:=Ground.phase },{ on:=7,ground:=Ground.phase },{ on:=8,ground:=Ground.phase },{ on:=9,ground:=Ground.phase },{ on:=10,ground:=Ground.phase },{ on:=11,ground:=Ground.phase },{ on:=12,ground:=Ground.phase },{ on:=13,ground:=Ground.phase },{ on:=14,ground:=Ground.phase },{ on:=15,ground:=Ground.phase },{ on:=16,ground:=Ground.phase },{ on:=17,ground:=Ground.phase },{ on:=18,ground:=Ground.phase },{ on:=19,ground:=Ground.phase },{ on:=20,ground:=Ground.phase },{ on:=21,ground:=Ground.phase }],guard:=none }
def ops:Array Oper:= #[n0,n1,n2,n3,n4,n5,n6,n7,n8,n9,n10,n11,n12,n13,n14,n15,n16,n17,n18,n19,n20,n21,n22,n23]
def dl:List (Option Nat):=[some 103,some 104,some 105,some 106,some 107,some 108,some 109,some 110,some 111,some 112,some 113,some 114,some 115,some 116,some 117,some 118,some 119,some 120,some 121,some 122,some 123,some 124,some 125,none]
theorem dst: ∀i,zal ops i=(dl[i]?).bind id
 | 0=>rfl
 | 1=>rfl
 | 2=>rfl
 | 3=>rfl
 | 4=>rfl
 | 5=>rfl
 | 6=>rfl
 | 7=>rfl
 | 8=>rfl
 | 9=>rfl
 | 10=>rfl
 | 11=>rfl
 | 12=>rfl
 | 13=>rfl
 | 14=>rfl
 | 15=>rfl
 | 16=>rfl
 | 17=>rfl
 | 18=>rfl
 | 19=>rfl
 | 20=>rfl
 | 21=>rfl
 | 22=>rfl
 | 23=>rfl
 | n+24=>by simp[zal,ops,dl]
theorem o7: ∀(i:Nat) (o:Oper),ops[i]? = some o->(i=0/\o=n0)\/(i=1/\o=n1)\/(i=2/\o=n2)\/(i=3/\o=n3)\/(i=4/\o=n4)\/(i=5/\o=n5)\/(i=6/\o=n6)\/(i=7/\o=n7)\/(i=8/\o=n8)\/(i=9/\o=n9)\/(i=10/\o=n10)\/(i=11/\o=n11)\/(i=12/\o=n12)\/(i=13/\o=n13)\/(i=14/\o=n14)\/(i=15/\o=n15)\/(i=16/\o=n16)\/(i=17/\o=n17)\/(i=18/\o=n18)\/(i=19/\o=n19)\/(i=20/\o=n20)\/(i=21/\o=n21)\/(i=22/\o=n22)\/(i=23/\o=n23)
 | 0,o,h=>by have h2:some n0=some o:=h;cases h2;simp
 | 1,o,h=>by have h2:some n1=some o:=h;cases h2;simp
 | 2,o,h=>by have h2:some n2=some o:=h;cases h2;simp
 | 3,o,h=>by have h2:some n3=some o:=h;cases h2;simp
 | 4,o,h=>by have h2:some n4=some o:=h;cases h2;simp
 | 5,o,h=>by have h2:some n5=some o:=h;cases h2;simp
 | 6,o,h=>by have h2:some n6=some o:=h;cases h2;simp
 | 7,o,h=>by have h2:some n7=some o:=h;cases h2;simp
 | 8,o,h=>by have h2:some n8=some o:=h;cases h2;simp
 | 9,o,h=>by have h2:some n9=some o:=h;cases h2;simp
 | 10,o,h=>by have h2:some n10=some o:=h;cases h2;simp
 | 11,o,h=>by have h2:some n11=some o:=h;cases h2;simp
 | 12,o,h=>by have h2:some n12=some o:=h;cases h2;simp
 | 13,o,h=>by have h2:some n13=some o:=h;cases h2;simp
 | 14,o,h=>by have h2:some n14=some o:=h;cases h2;simp
 | 15,o,h=>by have h2:some n15=some o:=h;cases h2;simp
 | 16,o,h=>by have h2:some n16=some o:=h;cases h2;simp
 | 17,o,h=>by have h2:some n17=some o:=h;cases h2;simp
 | 18,o,h=>by have h2:some n18=some o:=h;cases h2;simp
 | 19,o,h=>by have h2:some n19=some o:=h;cases h2;simp
 | 20,o,h=>by have h2:some n20=some o:=h;cases h2;simp
 | 21,o,h=>by have h2:some n21=some o:=h;cases h2;simp
 | 22,o,h=>by have h2:some n22=some o:=h;cases h2;simp
 | 23,o,h=>by have h2:some n23=some o:=h;cases h2;simp
 | n+24,o,h=>by simp[ops]at h
theorem hN: ∀i j d,zal ops i=some d->zal ops j=some d->i=j:=by
 intro i j d h1 h2
 rw[dst]at h1 h2
 have hi:i<24:=by
  cases h:dl[i]? with
  | none=>rw[h]at h1;cases h1
  | some x=>exact (List.getElem?_eq_some_iff.1 h).1
 have hj:j<24:=by
  cases h:dl[j]? with
  | none=>rw[h]at h2;cases h2
  | some x=>exact (List.getElem?_eq_some_iff.1 h).1
 have key: ∀i,i<24-> ∀j,j<24->((dl[i]?).bind id).isSome=true->(dl[i]?).bind id=(dl[j]?).bind id->i=j:=by decide
 exact key i hi j hj (by rw[h1];rfl) (h1.trans h2.symm)
theorem hlex: ∀(i:Nat) (o:Oper),ops[i]? = some o-> ∀e∈o.after,Region.binds .any e=true->e.on<i:=by
 intro i o h e he hb
 have key: ∀(k:Nat) (p:Oper),(p.after.all fun e=> !Region.binds .any e||decide (e.on<k))=true-> ∀e∈p.after,Region.binds .any e=true->e.on<k:=by
  intro k p hp e he hb
  rw[Array.all_eq_true_iff_forall_mem]at hp
  have:=hp e he
  simpa[hb]using this
 rcases o7 i o h with ⟨rfl,rfl⟩|⟨rfl,rfl⟩|⟨rfl,rfl⟩|⟨rfl,rfl⟩|⟨rfl,rfl⟩|⟨rfl,rfl⟩|⟨rfl,rfl⟩|⟨rfl,rfl⟩|⟨rfl,rfl⟩|⟨rfl,rfl⟩|⟨rfl,rfl⟩|⟨rfl,rfl⟩|⟨rfl,rfl⟩|⟨rfl,rfl⟩|⟨rfl,rfl⟩|⟨rfl,rfl⟩|⟨rfl,rfl⟩|⟨rfl,rfl⟩|⟨rfl,rfl⟩|⟨rfl,rfl⟩|⟨rfl,rfl⟩|⟨rfl,rfl⟩|⟨rfl,rfl⟩|⟨rfl,rfl⟩
 ·exact key 0 n0 (by simp[n0,Region.binds]) e he hb
 ·exact key 1 n1 (by simp[n1,Region.binds]) e he hb
 ·exact key 2 n2 (by simp[n2,Region.binds]) e he hb
 ·exact key 3 n3 (by simp[n3,Region.binds]) e he hb
 ·exact key 4 n4 (by simp[n4,Region.binds]) e he hb
 ·exact key 5 n5 (by simp[n5,Region.binds]) e he hb
 ·exact key 6 n6 (by simp[n6,Region.binds]) e he hb
 ·exact key 7 n7 (by simp[n7,Region.binds]) e he hb
 ·exact key 8 n8 (by simp[n8,Region.binds]) e he hb
 ·exact key 9 n9 (by simp[n9,Region.binds]) e he hb
 ·exact key 10 n10 (by simp[n10,Region.binds]) e he hb
 ·exact key 11 n11 (by simp[n11,Region.binds]) e he hb
 ·exact key 12 n12 (by simp[n12,Region.binds]) e he hb
 ·exact key 13 n13 (by simp[n13,Region.binds]) e he hb
 ·exact key 14 n14 (by simp[n14,Region.binds]) e he hb
 ·exact key 15 n15 (by simp[n15,Region.binds]) e he hb
 ·exact key 16 n16 (by simp[n16,Region.binds]) e he hb
 ·exact key 17 n17 (by simp[n17,Region.binds]) e he hb
 ·exact key 18 n18 (by simp[n18,Region.binds]) e he hb
 ·exact key 19 n19 (by simp[n19,Region.binds]) e he hb
 ·exact key 20 n20 (by simp[n20,Region.binds]) e he hb
 ·exact key 21 n21 (by simp[n21,Region.binds]) e he hb
 ·exact key 22 n22 (by simp[n22,Region.binds]) e he hb
 ·exact key 23 n23 (by simp[n23,Region.binds]) e he hb
theorem hg {a0:Act} (hz:a0.tmps.size=171): ∀(i:Nat) (o:Oper),ops[i]? = some o->o.guard=none/\ ∀d,o.dst=some d->d<a0.tmps.size:=by
 intro i o h
 rw[hz]
 rcases o7 i o h with ⟨rfl,rfl⟩|⟨rfl,rfl⟩|⟨rfl,rfl⟩|⟨rfl,rfl⟩|⟨rfl,rfl⟩|⟨rfl,rfl⟩|⟨rfl,rfl⟩|⟨rfl,rfl⟩|⟨rfl,rfl⟩|⟨rfl,rfl⟩|⟨rfl,rfl⟩|⟨rfl,rfl⟩|⟨rfl,rfl⟩|⟨rfl,rfl⟩|⟨rfl,rfl⟩|⟨rfl,rfl⟩|⟨rfl,rfl⟩|⟨rfl,rfl⟩|⟨rfl,rfl⟩|⟨rfl,rfl⟩|⟨rfl,rfl⟩|⟨rfl,rfl⟩|⟨rfl,rfl⟩|⟨rfl,rfl⟩
 ·exact⟨rfl,fun d hd=>by cases hd;decide⟩
 ·exact⟨rfl,fun d hd=>by cases hd;decide⟩
 ·exact⟨rfl,fun d hd=>by cases hd;decide⟩
 ·exact⟨rfl,fun d hd=>by cases hd;decide⟩
 ·exact⟨rfl,fun d hd=>by cases hd;decide⟩
 ·exact⟨rfl,fun d hd=>by cases hd;decide⟩
 ·exact⟨rfl,fun d hd=>by cases hd;decide⟩
 ·exact⟨rfl,fun d hd=>by cases hd;decide⟩
 ·exact⟨rfl,fun d hd=>by cases hd;decide⟩
 ·exact⟨rfl,fun d hd=>by cases hd;decide⟩
 ·exact⟨rfl,fun d hd=>by cases hd;decide⟩
 ·exact⟨rfl,fun d hd=>by cases hd;decide⟩
 ·exact⟨rfl,fun d hd=>by cases hd;decide⟩
 ·exact⟨rfl,fun d hd=>by cases hd;decide⟩
 ·exact⟨rfl,fun d hd=>by cases hd;decide⟩
 ·exact⟨rfl,fun d hd=>by cases hd;decide⟩
 ·exact⟨rfl,fun d hd=>by cases hd;decide⟩
 ·exact⟨rfl,fun d hd=>by cases hd;decide⟩
 ·exact⟨rfl,fun d hd=>by cases hd;decide⟩
 ·exact⟨rfl,fun d hd=>by cases hd;decide⟩
 ·exact⟨rfl,fun d hd=>by cases hd;decide⟩
 ·exact⟨rfl,fun d hd=>by cases hd;decide⟩
 ·exact⟨rfl,fun d hd=>by cases hd;decide⟩
 ·exact⟨rfl,fun d hd=>by cases hd⟩
def val (eb lb qq sb K M Sn qc li:Nat) (qlo:Option Addr) (nm tk:Int) (x:Nat×Option Addr×Nat):Nat->Value
 | 0=> .pointer (some ⟨sb,0,none⟩)
 | 1=> .pointer (some ⟨sb,0,none⟩)
 | 2=> .pointer (some ⟨sb,13,none⟩)
 | 3=> .slice (some ⟨qq,0,none⟩) Sn Sn
 | 4=> .int .i64 (K:Int)
 | 5=> .pointer (some ⟨sb,0,none⟩)
 | 6=> .pointer (some ⟨sb,0,none⟩)
 | 7=> .pointer (some ⟨sb,13,none⟩)
 | 8=> .slice (some ⟨qq,0,none⟩) Sn Sn
 | 9=> .int .i64 (K:Int)
 | 10=> .pointer (some ⟨qq,K,none⟩)
 | 11=> .slice qlo M qc
 | 12=> .pointer (some ⟨eb,0,none⟩)
 | 13=> .int .i64 tk
 | 14=> .pointer (some ⟨lb,li*5,none⟩)
 | 15=> .pointer (some ⟨lb,li*5,none⟩)
 | 16=> .pointer (some ⟨lb,li*5,none⟩)
 | 17=> .pointer (some ⟨lb,li*5,none⟩)
 | 18=> .int .i64 nm
 | 19=> .agg #[.int .i64 tk,.int .i64 nm]
 | 20=> .slice (some ⟨x.1,0,none⟩) 1 1
 | 21=> .slice x.2.1 (M+1) x.2.2
 | 22=> .pointer (some ⟨qq,K,none⟩)
 | 23=>undef
 | _=>undef
def pairs (eb lb qq sb K M Sn qc li:Nat) (qlo:Option Addr) (nm tk:Int) (x:Nat×Option Addr×Nat):List (Nat×Value) :=
 [(103,.pointer (some ⟨sb,0,none⟩)),(104,.pointer (some ⟨sb,0,none⟩)),(105,.pointer (some ⟨sb,13,none⟩)),(106,.slice (some ⟨qq,0,none⟩) Sn Sn),(107,.int .i64 (K:Int)),(108,.pointer (some ⟨sb,0,none⟩)),(109,.pointer (some ⟨sb,0,none⟩)),(110,.pointer (some ⟨sb,13,none⟩)),(111,.slice (some ⟨qq,0,none⟩) Sn Sn),(112,.int .i64 (K:Int)),(113,.pointer (some ⟨qq,K,none⟩)),(114,.slice qlo M qc),(115,.pointer (some ⟨eb,0,none⟩)),(116,.int .i64 tk),(117,.pointer (some ⟨lb,li*5,none⟩)),(118,.pointer (some ⟨lb,li*5,none⟩)),(119,.pointer (some ⟨lb,li*5,none⟩)),(120,.pointer (some ⟨lb,li*5,none⟩)),(121,.int .i64 nm),(122,.agg #[.int .i64 tk,.int .i64 nm]),(123,.slice (some ⟨x.1,0,none⟩) 1 1),(124,.slice x.2.1 (M+1) x.2.2),(125,.pointer (some ⟨qq,K,none⟩))]
theorem hD (eb lb qq sb K M Sn qc li:Nat) (qlo:Option Addr) (nm tk:Int) (x:Nat×Option Addr×Nat):((pairs eb lb qq sb K M Sn qc li qlo nm tk x).map (·.1)).Nodup/\(∀p∈pairs eb lb qq sb K M Sn qc li qlo nm tk x,∃i,zal ops i=some p.1/\p.2=val eb lb qq sb K M Sn qc li qlo nm tk x i)/\ ∀i d,zal ops i=some d->(d,val eb lb qq sb K M Sn qc li qlo nm tk x i)∈pairs eb lb qq sb K M Sn qc li qlo nm tk x:=by
 refine⟨?_,fun p hp=> ?_,fun i d hd=> ?_⟩
 ·show ([103,104,105,106,107,108,109,110,111,112,113,114,115,116,117,118,119,120,121,122,123,124,125]:List Nat).Nodup
  decide
 ·simp only[pairs,List.mem_cons,List.not_mem_nil,or_false]at hp
  rcases hp with rfl|rfl|rfl|rfl|rfl|rfl|rfl|rfl|rfl|rfl|rfl|rfl|rfl|rfl|rfl|rfl|rfl|rfl|rfl|rfl|rfl|rfl|rfl
  ·exact⟨0,rfl,rfl⟩
  ·exact⟨1,rfl,rfl⟩
  ·exact⟨2,rfl,rfl⟩
  ·exact⟨3,rfl,rfl⟩
  ·exact⟨4,rfl,rfl⟩
  ·exact⟨5,rfl,rfl⟩
  ·exact⟨6,rfl,rfl⟩
  ·exact⟨7,rfl,rfl⟩
  ·exact⟨8,rfl,rfl⟩
  ·exact⟨9,rfl,rfl⟩
  ·exact⟨10,rfl,rfl⟩
  ·exact⟨11,rfl,rfl⟩
  ·exact⟨12,rfl,rfl⟩
  ·exact⟨13,rfl,rfl⟩
  ·exact⟨14,rfl,rfl⟩
  ·exact⟨15,rfl,rfl⟩
  ·exact⟨16,rfl,rfl⟩
  ·exact⟨17,rfl,rfl⟩
  ·exact⟨18,rfl,rfl⟩
  ·exact⟨19,rfl,rfl⟩
  ·exact⟨20,rfl,rfl⟩
  ·exact⟨21,rfl,rfl⟩
  ·exact⟨22,rfl,rfl⟩
 ·have hi: ∃o,ops[i]? = some o:=by
   unfold zal at hd
   cases ho:ops[i]? with
   | none=>rw[ho]at hd;cases hd
   | some o=>exact⟨o,rfl⟩
  obtain⟨o,ho⟩:=hi
  rcases o7 i o ho with ⟨rfl,rfl⟩|⟨rfl,rfl⟩|⟨rfl,rfl⟩|⟨rfl,rfl⟩|⟨rfl,rfl⟩|⟨rfl,rfl⟩|⟨rfl,rfl⟩|⟨rfl,rfl⟩|⟨rfl,rfl⟩|⟨rfl,rfl⟩|⟨rfl,rfl⟩|⟨rfl,rfl⟩|⟨rfl,rfl⟩|⟨rfl,rfl⟩|⟨rfl,rfl⟩|⟨rfl,rfl⟩|⟨rfl,rfl⟩|⟨rfl,rfl⟩|⟨rfl,rfl⟩|⟨rfl,rfl⟩|⟨rfl,rfl⟩|⟨rfl,rfl⟩|⟨rfl,rfl⟩|⟨rfl,rfl⟩
  ·have e:d=103:=by have:some 103=some d:=hd;cases this;rfl
   subst e
   simp[pairs,val]
  ·have e:d=104:=by have:some 104=some d:=hd;cases this;rfl
   subst e
   simp[pairs,val]
  ·have e:d=105:=by have:some 105=some d:=hd;cases this;rfl
   subst e
   simp[pairs,val]
  ·have e:d=106:=by have:some 106=some d:=hd;cases this;rfl
   subst e
   simp[pairs,val]
  ·have e:d=107:=by have:some 107=some d:=hd;cases this;rfl
   subst e
   simp[pairs,val]
  ·have e:d=108:=by have:some 108=some d:=hd;cases this;rfl
   subst e
   simp[pairs,val]
  ·have e:d=109:=by have:some 109=some d:=hd;cases this;rfl
   subst e
   simp[pairs,val]
  ·have e:d=110:=by have:some 110=some d:=hd;cases this;rfl
   subst e
   simp[pairs,val]
  ·have e:d=111:=by have:some 111=some d:=hd;cases this;rfl
   subst e
   simp[pairs,val]
  ·have e:d=112:=by have:some 112=some d:=hd;cases this;rfl
   subst e
   simp[pairs,val]
  ·have e:d=113:=by have:some 113=some d:=hd;cases this;rfl
   subst e
   simp[pairs,val]
  ·have e:d=114:=by have:some 114=some d:=hd;cases this;rfl
   subst e
   simp[pairs,val]
  ·have e:d=115:=by have:some 115=some d:=hd;cases this;rfl
   subst e
   simp[pairs,val]
  ·have e:d=116:=by have:some 116=some d:=hd;cases this;rfl
   subst e
   simp[pairs,val]
  ·have e:d=117:=by have:some 117=some d:=hd;cases this;rfl
   subst e
   simp[pairs,val]
  ·have e:d=118:=by have:some 118=some d:=hd;cases this;rfl
   subst e
   simp[pairs,val]
  ·have e:d=119:=by have:some 119=some d:=hd;cases this;rfl
   subst e
   simp[pairs,val]
  ·have e:d=120:=by have:some 120=some d:=hd;cases this;rfl
   subst e
   simp[pairs,val]
  ·have e:d=121:=by have:some 121=some d:=hd;cases this;rfl
   subst e
   simp[pairs,val]
  ·have e:d=122:=by have:some 122=some d:=hd;cases this;rfl
   subst e
   simp[pairs,val]
  ·have e:d=123:=by have:some 123=some d:=hd;cases this;rfl
   subst e
   simp[pairs,val]
  ·have e:d=124:=by have:some 124=some d:=hd;cases this;rfl
   subst e
   simp[pairs,val]
  ·have e:d=125:=by have:some 125=some d:=hd;cases this;rfl
   subst e
   simp[pairs,val]
  ·cases hd
section
variable (ρ:Operand->Value) (w:World) {eb lb qq sb K M Sn qc li:Nat} {qlo:Option Addr} {nm tk:Int}
theorem r0 (h0:ρ (.tmp 0)= .pointer (some ⟨sb,0,none⟩)):(execOp ρ n0).run Tryz.prog w= .ok (.value (.pointer (some ⟨sb,0,none⟩))) w:=by
 unfold n0
 go_simp
theorem r1 (h103:ρ (.tmp 103)= .pointer (some ⟨sb,0,none⟩)):(execOp ρ n1).run Tryz.prog w= .ok (.value (.pointer (some ⟨sb,0,none⟩))) w:=by
 unfold n1
 go_simp
theorem r2 (h104:ρ (.tmp 104)= .pointer (some ⟨sb,0,none⟩)):(execOp ρ n2).run Tryz.prog w= .ok (.value (.pointer (some ⟨sb,13,none⟩))) w:=by
 unfold n2
 go_simp
theorem r3 (h105:ρ (.tmp 105)= .pointer (some ⟨sb,13,none⟩)) (c0:w.cell? ⟨sb,13,none⟩=some (.slice (some ⟨qq,0,none⟩) Sn Sn)):(execOp ρ n3).run Tryz.prog w= .ok (.value (.slice (some ⟨qq,0,none⟩) Sn Sn)) w:=by
 unfold n3
 go_simp
theorem r4 (h8:ρ (.tmp 8)= .int .i64 (K:Int)):(execOp ρ n4).run Tryz.prog w= .ok (.value (.int .i64 (K:Int))) w:=by
 unfold n4
 go_simp
theorem r5 (h0:ρ (.tmp 0)= .pointer (some ⟨sb,0,none⟩)):(execOp ρ n5).run Tryz.prog w= .ok (.value (.pointer (some ⟨sb,0,none⟩))) w:=by
 unfold n5
 go_simp
theorem r6 (h108:ρ (.tmp 108)= .pointer (some ⟨sb,0,none⟩)):(execOp ρ n6).run Tryz.prog w= .ok (.value (.pointer (some ⟨sb,0,none⟩))) w:=by
 unfold n6
 go_simp
theorem r7 (h109:ρ (.tmp 109)= .pointer (some ⟨sb,0,none⟩)):(execOp ρ n7).run Tryz.prog w= .ok (.value (.pointer (some ⟨sb,13,none⟩))) w:=by
 unfold n7
 go_simp
theorem r8 (h110:ρ (.tmp 110)= .pointer (some ⟨sb,13,none⟩)) (c0:w.cell? ⟨sb,13,none⟩=some (.slice (some ⟨qq,0,none⟩) Sn Sn)):(execOp ρ n8).run Tryz.prog w= .ok (.value (.slice (some ⟨qq,0,none⟩) Sn Sn)) w:=by
 unfold n8
 go_simp
theorem r9 (h8:ρ (.tmp 8)= .int .i64 (K:Int)):(execOp ρ n9).run Tryz.prog w= .ok (.value (.int .i64 (K:Int))) w:=by
 unfold n9
 go_simp
theorem r10 (h111:ρ (.tmp 111)= .slice (some ⟨qq,0,none⟩) Sn Sn) (h112:ρ (.tmp 112)= .int .i64 (K:Int)) (hk0:(0:Int)<=(K:Int)) (hk1:(K:Int)<(Sn:Int)):(execOp ρ n10).run Tryz.prog w= .ok (.value (.pointer (some ⟨qq,K,none⟩))) w:=by
 unfold n10
 go_simp
theorem r11 (h113:ρ (.tmp 113)= .pointer (some ⟨qq,K,none⟩)) (c0:w.cell? ⟨qq,K,none⟩=some (.slice qlo M qc)):(execOp ρ n11).run Tryz.prog w= .ok (.value (.slice qlo M qc)) w:=by
 unfold n11
 go_simp
theorem r12 (h3:ρ (.tmp 3)= .pointer (some ⟨eb,0,none⟩)):(execOp ρ n12).run Tryz.prog w= .ok (.value (.pointer (some ⟨eb,0,none⟩))) w:=by
 unfold n12
 go_simp
theorem r13 (h115:ρ (.tmp 115)= .pointer (some ⟨eb,0,none⟩)) (c0:w.cell? ⟨eb,0,none⟩=some (.int .i64 tk)):(execOp ρ n13).run Tryz.prog w= .ok (.value (.int .i64 tk)) w:=by
 unfold n13
 go_simp
theorem r14 (h6:ρ (.tmp 6)= .pointer (some ⟨lb,li*5,none⟩)):(execOp ρ n14).run Tryz.prog w= .ok (.value (.pointer (some ⟨lb,li*5,none⟩))) w:=by
 unfold n14
 go_simp
theorem r15 (h117:ρ (.tmp 117)= .pointer (some ⟨lb,li*5,none⟩)):(execOp ρ n15).run Tryz.prog w= .ok (.value (.pointer (some ⟨lb,li*5,none⟩))) w:=by
 unfold n15
 go_simp
theorem r16 (h118:ρ (.tmp 118)= .pointer (some ⟨lb,li*5,none⟩)):(execOp ρ n16).run Tryz.prog w= .ok (.value (.pointer (some ⟨lb,li*5,none⟩))) w:=by
 unfold n16
 go_simp
theorem r17 (h119:ρ (.tmp 119)= .pointer (some ⟨lb,li*5,none⟩)):(execOp ρ n17).run Tryz.prog w= .ok (.value (.pointer (some ⟨lb,li*5,none⟩))) w:=by
 unfold n17
 go_simp
theorem r18 (h120:ρ (.tmp 120)= .pointer (some ⟨lb,li*5,none⟩)) (c0:w.cell? ⟨lb,li*5,none⟩=some (.int .i64 nm)):(execOp ρ n18).run Tryz.prog w= .ok (.value (.int .i64 nm)) w:=by
 unfold n18
 go_simp
theorem r19 (h116:ρ (.tmp 116)= .int .i64 tk) (h121:ρ (.tmp 121)= .int .i64 nm):(execOp ρ n19).run Tryz.prog w= .ok (.value (.agg #[.int .i64 tk,.int .i64 nm])) w:=by
 unfold n19
 go_simp
theorem r22 (h106:ρ (.tmp 106)= .slice (some ⟨qq,0,none⟩) Sn Sn) (h107:ρ (.tmp 107)= .int .i64 (K:Int)) (hk0:(0:Int)<=(K:Int)) (hk1:(K:Int)<(Sn:Int)):(execOp ρ n22).run Tryz.prog w= .ok (.value (.pointer (some ⟨qq,K,none⟩))) w:=by
 unfold n22
 go_simp
theorem rA {nm1 nm2:Int} (h:ρ (.tmp 122)= .agg #[.int .i64 nm1,.int .i64 nm2]):(execOp ρ n20).run Tryz.prog w= .ok (.value (.slice (some ⟨w.heap.size,0,none⟩) 1 1)) (w.alloc (.cells #[.int .i64 nm1,.int .i64 nm2] 210)):=by
 unfold n20
 go_simp
theorem rT {lo':Option Addr} {m' c':Nat} {v:Value} (h1:ρ (.tmp 125)= .pointer (some ⟨qq,K,none⟩)) (h2:ρ (.tmp 124)= .slice lo' m' c') (c0:w.cell? ⟨qq,K,none⟩=some v) (f0:w.frozen? ⟨qq,K,none⟩=false):(execOp ρ n23).run Tryz.prog w= .ok .skip (w.setCell ⟨qq,K,none⟩ (.slice lo' m' c')):=by
 unfold n23
 go_simp
end
set_option maxHeartbeats 2000000 in
set_option maxRecDepth 100000 in
theorem reg {Q:Exit->Act->World->Prop} {a0:Act} {w7:World} {id:Nat} {eb lb qq sb K M Sn qc li:Nat} {qlo:Option Addr} {nm tk:Int} {xs:List (Int×Int)} (hz:a0.tmps.size=171) (t0:env a0 0= .pointer (some ⟨sb,0,none⟩)) (t3:env a0 3= .pointer (some ⟨eb,0,none⟩)) (t6:env a0 6= .pointer (some ⟨lb,li*5,none⟩)) (t8:env a0 8= .int .i64 (K:Int)) (b_eb:eb<w7.heap.size/\eb∉(qb qlo).toList) (b_lb:lb<w7.heap.size/\lb∉(qb qlo).toList) (b_qq:qq<w7.heap.size/\qq∉(qb qlo).toList) (b_sb:sb<w7.heap.size/\sb∉(qb qlo).toList) (c13:w7.cell? ⟨sb,13,none⟩=some (.slice (some ⟨qq,0,none⟩) Sn Sn)) (cq:w7.cell? ⟨qq,K,none⟩=some (.slice qlo M qc)) (ct:w7.cell? ⟨eb,0,none⟩=some (.int .i64 tk)) (cn:w7.cell? ⟨lb,li*5,none⟩=some (.int .i64 nm)) (hk0:(0:Int)<=(K:Int)) (hk1:(K:Int)<(Sn:Int)) (hfz: ∀W,Fr (qb qlo).toList w7 W->W.frozen? ⟨qq,K,none⟩=false) (hQ: ∀W,Fr [] w7 W->QW W qlo M qc xs) (hM:M<=1099511627776)
  (hend: ∀(x:Nat×Option Addr×Nat) W1 w',Fr [] w7 W1->QW w' x.2.1 (M+1) x.2.2 (xs++[(tk,nm)])->Fr (qb qlo).toList W1 w'->(qb x.2.1=qb qlo\/ ∃j,qb x.2.1=some j/\W1.heap.size<=j)->Q .normal (puts a0 (pairs eb lb qq sb K M Sn qc li qlo nm tk x)) (w'.setCell ⟨qq,K,none⟩ (.slice x.2.1 (M+1) x.2.2))) :
  (Code.region id ops true).wp Tryz.prog Q a0 w7:=by
 refine zfd (val:=val eb lb qq sb K M Sn qc li qlo nm tk) (W:=Wap w7 20 21 23 qq K qlo M xs tk nm) (pairs eb lb qq sb K M Sn qc li qlo nm tk) (0,none,0) (by kernel_rfl) hN (hg hz) ?_ hlex (hD eb lb qq sb K M Sn qc li qlo nm tk) (Wap.start w7 _) ?_
 ·intro ii o ho x L a w hLi hdl hcl hdv hsame hza hW
  have hno: ∀t,some t∉dl->env a t=env a0 t:=fun t ht=>hsame t (fun j hj=>by
   rw[dst]at hj
   cases h:dl[j]? with
   | none=>rw[h]at hj;cases hj
   | some y=>rw[h]at hj;exact ht (List.mem_of_getElem? (by rw[h];exact congrArg some hj)))
  have s0:env a 0= .pointer (some ⟨sb,0,none⟩):=(hno 0 (by decide)).trans t0
  have s3:env a 3= .pointer (some ⟨eb,0,none⟩):=(hno 3 (by decide)).trans t3
  have s6:env a 6= .pointer (some ⟨lb,li*5,none⟩):=(hno 6 (by decide)).trans t6
  have s8:env a 8= .int .i64 (K:Int):=(hno 8 (by decide)).trans t8
  rcases o7 ii o ho with ⟨rfl,rfl⟩|⟨rfl,rfl⟩|⟨rfl,rfl⟩|⟨rfl,rfl⟩|⟨rfl,rfl⟩|⟨rfl,rfl⟩|⟨rfl,rfl⟩|⟨rfl,rfl⟩|⟨rfl,rfl⟩|⟨rfl,rfl⟩|⟨rfl,rfl⟩|⟨rfl,rfl⟩|⟨rfl,rfl⟩|⟨rfl,rfl⟩|⟨rfl,rfl⟩|⟨rfl,rfl⟩|⟨rfl,rfl⟩|⟨rfl,rfl⟩|⟨rfl,rfl⟩|⟨rfl,rfl⟩|⟨rfl,rfl⟩|⟨rfl,rfl⟩|⟨rfl,rfl⟩|⟨rfl,rfl⟩
  ·exact zak (r0 _ _ s0) (hW.read (by decide) (by decide) (by decide))
  ·exact zak (r1 _ _ (hdv 0 103 (by simp[dep,ops,n1,Region.binds]) rfl)) (hW.read (by decide) (by decide) (by decide))
  ·exact zak (r2 _ _ (hdv 1 104 (by simp[dep,ops,n2,Region.binds]) rfl)) (hW.read (by decide) (by decide) (by decide))
  ·have hT:L 23=false:=by
    cases h:L 23 with
    | false=>rfl
    | true=>have:=hcl 23 3 h (by simp[dep,ops,n23,Region.binds]);rw[hLi]at this;cases this
   exact zak (r3 _ _ (hdv 2 105 (by simp[dep,ops,n3,Region.binds]) rfl) (hW.cell hT b_sb.1 b_sb.2 c13)) (hW.read (by decide) (by decide) (by decide))
  ·exact zak (r4 _ _ s8) (hW.read (by decide) (by decide) (by decide))
  ·exact zak (r5 _ _ s0) (hW.read (by decide) (by decide) (by decide))
  ·exact zak (r6 _ _ (hdv 5 108 (by simp[dep,ops,n6,Region.binds]) rfl)) (hW.read (by decide) (by decide) (by decide))
  ·exact zak (r7 _ _ (hdv 6 109 (by simp[dep,ops,n7,Region.binds]) rfl)) (hW.read (by decide) (by decide) (by decide))
  ·have hT:L 23=false:=by
    cases h:L 23 with
    | false=>rfl
    | true=>have:=hcl 23 8 h (by simp[dep,ops,n23,Region.binds]);rw[hLi]at this;cases this
   exact zak (r8 _ _ (hdv 7 110 (by simp[dep,ops,n8,Region.binds]) rfl) (hW.cell hT b_sb.1 b_sb.2 c13)) (hW.read (by decide) (by decide) (by decide))
  ·exact zak (r9 _ _ s8) (hW.read (by decide) (by decide) (by decide))
  ·exact zak (r10 _ _ (hdv 8 111 (by simp[dep,ops,n10,Region.binds]) rfl) (hdv 9 112 (by simp[dep,ops,n10,Region.binds]) rfl) hk0 hk1) (hW.read (by decide) (by decide) (by decide))
  ·have hT:L 23=false:=by
    cases h:L 23 with
    | false=>rfl
    | true=>have:=hcl 23 11 h (by simp[dep,ops,n23,Region.binds]);rw[hLi]at this;cases this
   exact zak (r11 _ _ (hdv 10 113 (by simp[dep,ops,n11,Region.binds]) rfl) (hW.cell hT b_qq.1 b_qq.2 cq)) (hW.read (by decide) (by decide) (by decide))
  ·exact zak (r12 _ _ s3) (hW.read (by decide) (by decide) (by decide))
  ·have hT:L 23=false:=by
    cases h:L 23 with
    | false=>rfl
    | true=>have:=hcl 23 13 h (by simp[dep,ops,n23,Region.binds]);rw[hLi]at this;cases this
   exact zak (r13 _ _ (hdv 12 115 (by simp[dep,ops,n13,Region.binds]) rfl) (hW.cell hT b_eb.1 b_eb.2 ct)) (hW.read (by decide) (by decide) (by decide))
  ·exact zak (r14 _ _ s6) (hW.read (by decide) (by decide) (by decide))
  ·exact zak (r15 _ _ (hdv 14 117 (by simp[dep,ops,n15,Region.binds]) rfl)) (hW.read (by decide) (by decide) (by decide))
  ·exact zak (r16 _ _ (hdv 15 118 (by simp[dep,ops,n16,Region.binds]) rfl)) (hW.read (by decide) (by decide) (by decide))
  ·exact zak (r17 _ _ (hdv 16 119 (by simp[dep,ops,n17,Region.binds]) rfl)) (hW.read (by decide) (by decide) (by decide))
  ·have hT:L 23=false:=by
    cases h:L 23 with
    | false=>rfl
    | true=>have:=hcl 23 18 h (by simp[dep,ops,n23,Region.binds]);rw[hLi]at this;cases this
   exact zak (r18 _ _ (hdv 17 120 (by simp[dep,ops,n18,Region.binds]) rfl) (hW.cell hT b_lb.1 b_lb.2 cn)) (hW.read (by decide) (by decide) (by decide))
  ·exact zak (r19 _ _ (hdv 13 116 (by simp[dep,ops,n19,Region.binds]) rfl) (hdv 18 121 (by simp[dep,ops,n19,Region.binds]) rfl)) (hW.read (by decide) (by decide) (by decide))
  ·have hT:L 23=false:=by
    cases h:L 23 with
    | false=>rfl
    | true=>have:=hcl 23 20 h (by simp[dep,ops,n23,Region.binds]);rw[hLi]at this;cases this
   have hP:L 21=false:=by
    cases h:L 21 with
    | false=>rfl
    | true=>have:=hcl 21 20 h (by simp[dep,ops,n21,Region.binds]);rw[hLi]at this;cases this
   have hb:=(hdv 19 122 (by simp[dep,ops,n20,Region.binds]) rfl)
   have hr:=rA a.eval w (nm1:=tk) (nm2:=nm) hb
   unfold Oper.wp
   rw[hr]
   refine⟨(w.heap.size,x.2),rfl,fun j hj=> ?_,hW.made hT hP (by decide) (by decide)⟩
   by_cases e:j=20
   ·subst e;rw[hLi]at hj;cases hj
   ·unfold val
    split<;>first|rfl|omega
  ·have hT:L 23=false:=by
    cases h:L 23 with
    | false=>rfl
    | true=>have:=hcl 23 21 h (by simp[dep,ops,n23,Region.binds]);rw[hLi]at this;cases this
   have hA:L 20=true:=hdl 20 (by simp[dep,ops,n21,Region.binds])
   have e1:a.eval (.tmp 114)= .slice qlo M qc:=(hdv 11 114 (by simp[dep,ops,n21,Region.binds]) rfl)
   have e2:a.eval (.tmp 123)= .slice (some ⟨x.1,0,none⟩) 1 1:=(hdv 20 123 (by simp[dep,ops,n21,Region.binds]) rfl)
   obtain⟨lo',c',w2,r1,r2⟩:=hW.app hT hLi hA (by decide) hQ hM n21.type
   unfold Oper.wp execOp
   simp only[n21,resolve,invoke,builtin,Sem.run_bind,Sem.run_pure,Result.andThen_ok,List.map_toArray,List.map_cons,List.map_nil,e1,e2]
   have r1':(Builtin.append_ #[208,208] 208 #[.slice qlo M qc,.slice (some ⟨x.1,0,none⟩) 1 1]).run Tryz.prog w= .ok (.slice lo' (M+1) c') w2:=r1
   rw[r1']
   refine⟨(x.1,lo',c'),rfl,fun j hj=> ?_,r2⟩
   by_cases e:j=21
   ·subst e;rw[hLi]at hj;cases hj
   ·unfold val
    split<;>first|rfl|omega
  ·exact zak (r22 _ _ (hdv 3 106 (by simp[dep,ops,n22,Region.binds]) rfl) (hdv 4 107 (by simp[dep,ops,n22,Region.binds]) rfl) hk0 hk1) (hW.read (by decide) (by decide) (by decide))
  ·have hP:L 21=true:=hdl 21 (by simp[dep,ops,n23,Region.binds])
   have e1:a.eval (.tmp 125)= .pointer (some ⟨qq,K,none⟩):=(hdv 22 125 (by simp[dep,ops,n23,Region.binds]) rfl)
   have e2:a.eval (.tmp 124)= .slice x.2.1 (M+1) x.2.2:=(hdv 21 124 (by simp[dep,ops,n23,Region.binds]) rfl)
   have cq:=hW.cell hLi b_qq.1 b_qq.2 cq
   have fq:=hfz _ (hW.fr hLi)
   have hr:=rT a.eval w e1 e2 cq fq
   unfold Oper.wp
   rw[hr]
   exact⟨x,rfl,fun j hj=>rfl,hW.store hLi hP (by decide) (by decide)⟩
 ·intro x L w hL hW
  obtain⟨W1,w',a1,a2,a3,a4,e⟩:=hW.fin (hL 23 (by decide))
  rw[e]
  exact hend x W1 w' a1 a2 a3 a4
end Go.Proofs.YtaaghcimfcjehaaGreatDoor.Rl
namespace Go.Proofs.YtaaghcimfcjehaaGreatDoor
open Go.ChangeShapes Go.WideShapes Go.ChangeAt Go.RowKit Go.Lib Go.Maps
section
variable {wS w:World} {Z:Zd} {c:Cf} {ts:List Tm} {xs:List Int} {d:Ds}
set_option maxHeartbeats 8000000 in
set_option maxRecDepth 100000 in
theorem zpb (h:DsM wS w Z c ts xs d) (e:Ev) (i:Nat) (hi:i<c.l.toNat) (het:e.t=(i:Int)+1) (hh:(d.lan i).has=true) (hs:(d.lan i).sent<(shs c (txs ts) (d.lan i).n).length) (hk:Lk (txs ts)) (hql: ∀k,k<16->(d.que k).length<=1099511627776) :
  Calls Tryz.prog 84 #[.pointer (some ⟨Z.sb,0,none⟩),.agg #[.int .i64 e.t,.int .u8 e.k,.int .i64 e.n,.int .i64 e.s,.int .i64 e.c,.int .i64 e.m]] w (DstP wS w Z c ts xs (lanD c (txs ts) d i)):=by
 obtain⟨w0,rb,eb,HW0,HRB,HEB,hm,HFin,HBox,HEbx⟩:=h.boxed2 e
 have hls:=h.may.1
 have hss:=h.may.2.1
 have hqs:=h.may.2.2.2
 have hE:=HEbx.out _ _ _ hm.dr
 have et:w0.cell? ⟨eb,0,none⟩=some (.int .i64 e.t):=by rw[cell_of_row _ _ _ _ _ _ hE];rfl
 have c12:w0.cell? ⟨Z.sb,12,none⟩=some (.slice (some ⟨Z.lb,0,none⟩) c.l.toNat c.l.toNat):=hm.cell rfl
 have hnx:1<=(d.lan i).n/\(d.lan i).n<=((txs ts).length:Int):=by
  obtain⟨⟨_,⟨_,_,_,_,l9⟩,_⟩,_⟩:=hm.lanCell hi
  obtain⟨hn1,t0,ht0,_⟩:=l9 hh
  have:=(List.getElem?_eq_some_iff.1 ht0).1
  rw[zap]
  exact⟨hn1,by omega⟩
 obtain⟨hn1,hnl⟩:=hnx
 have hokT:=hk.tx _ hn1 hnl
 obtain⟨t,m1,m2,m3,HC⟩:=hm.counts hi hh hk
 obtain⟨⟨l0,_,l2,l3,l4⟩,_⟩:=hm.lanCell hi
 rw[Nat.mul_comm 5 i]at l0 l2 l3 l4
 rw[hh]at l2
 obtain⟨y,hy⟩: ∃y,y=(dd t.ws).getD (d.lan i).sent Wt.zero:=⟨_,rfl⟩
 have hsl:(d.lan i).sent<(dd t.ws).length:=by rw[<-m3];exact hs
 have hym:y∈dd t.ws:=by rw[hy];exact zbw _ _ hsl
 have hyk:=(hokT.2.2.2 y (by rw[m2];exact zjz _ _ hym)).2.1
 have hyk2:=(hokT.2.2.2 y (by rw[m2];exact zjz _ _ hym)).1
 have hshd:(shs c (txs ts) (d.lan i).n).getD (d.lan i).sent 0=zbg c.s y.key:=by
  unfold shs
  rw[m2,hy]
  simp[List.getD,hsl]
 have hlow:=zmq h.may (txs ts) (d.lan i).n (zbg c.s y.key) (by
  rw[<-hshd]
  exact List.mem_of_getElem? (i:=(d.lan i).sent) (by simp[List.getD,hs]))
 obtain⟨K,hK⟩: ∃K:Nat,zbg c.s y.key=(K:Int):=⟨(zbg c.s y.key).toNat,by omega⟩
 have hKs:K<c.s.toNat:=by omega
 rw[hK]at hshd
 have hsh:Cf.shard ⟨c.l,c.s,c.w,c.q⟩ y.key=((K:Int),0):=by
  have hmm:Cf.may ⟨c.l,c.s,c.w,c.q⟩:=h.may
  unfold Cf.shard
  rw[if_neg (by simpa using hmm),if_neg (by simp;exact⟨hyk2,hyk⟩)]
  exact congrArg (fun z=>(z,(0:Int))) hK
 have HSh:Hid (∀W:World,Calls Tryz.prog 132 #[.agg #[.int .i64 c.l,.int .i64 c.s,.int .i64 c.w,.int .i64 c.q],.string y.key] W fun e w'=>e= .returned (.tuple #[.int .i64 (K:Int),.int .i64 0])/\Fr [] W w'):=fun W=>by
  have:=znk c.l c.s c.w c.q y.key W (by omega)
  rw[hsh]at this
  exact this
 have HRow:Hid (∀W w1 ro rc,WOw W w1 ro (dd t.ws).length rc (dd t.ws)-> ∃bb off,ro=some ⟨bb,off,none⟩/\ ∀W',Fr [] w1 W'->W'.cell? ⟨bb,off+(d.lan i).sent*3,none⟩=some (.string y.key)):=by
  intro W w1 ro rc hO
  have hr:=hO.rs (by have:=zjy t.ws;have:=hokT.2.2.1;rw[m2]at this;omega) (fun x hx=>by have:=hokT.2.2.2 x (by rw[m2];exact zjz _ _ hx);have h1:=this.2.1;have h2:=this.2.2.1;omega)
  obtain⟨bb,off,e1,hlt,hc⟩:=hr.lies (by omega)
  refine⟨bb,off,e1,fun W' hW'=> ?_⟩
  obtain⟨d0,_⟩:=hc (d.lan i).sent hsl
  rw[<-hy]at d0
  exact (World.cell?_of_block (a:=⟨bb,off+(d.lan i).sent*3,none⟩) (hW'.block bb hlt (by simp))).trans d0
 obtain⟨hqc,hqz⟩:=hm.queCell hKs
 have hQl:(Z.q K).n=(d.que K).length:=(show QW w0 _ _ _ _ from hm.pm (K+8)).len
 have hqlK:=hql K (by omega)
 have HCf:Hid (∀W,Fr [] w0 W->W.cell? ⟨Z.sb,0,none⟩=some (.int .i64 c.l)/\W.cell? ⟨Z.sb,1,none⟩=some (.int .i64 c.s)/\W.cell? ⟨Z.sb,2,none⟩=some (.int .i64 c.w)/\W.cell? ⟨Z.sb,3,none⟩=some (.int .i64 c.q)/\W.cell? ⟨Z.lb,i*5+3,none⟩=some (.int .i64 ((d.lan i).sent:Int))/\W.cell? ⟨Z.sb,13,none⟩=some (.slice (some ⟨Z.qq,0,none⟩) c.s.toNat c.s.toNat)/\W.cell? ⟨Z.qq,K,none⟩=some (.slice (Z.q K).lo (d.que K).length (Z.q K).c)/\W.cell? ⟨Z.lb,i*5,none⟩=some (.int .i64 (d.lan i).n)/\W.cell? ⟨eb,0,none⟩=some (.int .i64 e.t)):=by
  intro W hW
  have D:=hm.dr.quiet hW
  obtain⟨⟨l0,_,_,l3,_⟩,_⟩:=D.m.lanCell hi
  rw[Nat.mul_comm 5 i]at l0 l3
  have hE2:=HEbx.out _ _ _ D
  exact⟨D.m.cell rfl,D.m.cell rfl,D.m.cell rfl,D.m.cell rfl,l3,D.m.cell rfl,by rw[<-hQl];exact (D.m.queCell hKs).1,l0,by rw[cell_of_row _ _ _ _ _ _ hE2];rfl⟩
 have HDq:Hid (∀W,Fr [] w0 W->Dr wS w0 W Z Z c ts xs d):=fun W hW=>hm.dr.quiet hW
 have HG:Hid (∀W W1 lo' c' w',Fr [] w0 W->Fr [] W W1->QW w' lo' ((d.que K).length+1) c' (d.que K++[(e.t,(d.lan i).n)])->Fr (qb (Z.q K).lo).toList W1 w'->(qb lo'=qb (Z.q K).lo\/ ∃k,qb lo'=some k/\W1.heap.size<=k)->(w'.cell? ⟨Z.sb,13,none⟩=some (.slice (some ⟨Z.qq,0,none⟩) c.s.toNat c.s.toNat)/\w'.cell? ⟨Z.qq,K,none⟩=some (.slice (Z.q K).lo (d.que K).length (Z.q K).c)/\w'.frozen? ⟨Z.qq,K,none⟩=false)/\ ∃W4,w'.setCell ⟨Z.qq,K,none⟩ (.slice lo' ((d.que K).length+1) c')=W4/\W4.cell? ⟨Z.lb,i*5+3,none⟩=some (.int .i64 ((d.lan i).sent:Int))/\W4.frozen? ⟨Z.lb,i*5+3,none⟩=false/\ ∀W5,Fr [] W4 W5-> ∃Z5,Dr wS w0 (W5.setCell ⟨Z.lb,i*5+3,none⟩ (.int .i64 ((d.lan i).sent+1))) Z Z5 c ts xs { d with que:=upd d.que K (d.que K++[((i:Int)+1,(d.lan i).n)]),lan:=upd d.lan i ⟨(d.lan i).n,true,(d.lan i).sent+1,(d.lan i).acked⟩ }/\(W5.setCell ⟨Z.lb,i*5+3,none⟩ (.int .i64 ((d.lan i).sent+1))).cell? ⟨Z.lb,i*5,none⟩=some (.int .i64 (d.lan i).n)):=by
  intro W W1 lo' c' w' hW hW1 hQ hF hn
  rw[het]at hQ
  have D1:=hm.dr.quiet (hW.then hW1)
  have hbx:=hF.keep D1.m.box (fun hb=>D1.m.ne0 (p:=K+8) (b:=Z.sb) hb (by omega) rfl)
  obtain⟨cq,cq1,cq2,cq3⟩:=D1.m.pm 3
  have hqq:=hF.keep cq1 (fun hb=>by have:=D1.m.ap (K+8) 3 Z.qq hb (by simp[Zd.part]);omega)
  have D2:=D1.go (D1.m.queue hKs (w1:=w') ⟨lo',(d.que K).length+1,c'⟩ _ hF hQ hn)
  obtain⟨⟨_,_,_,b3,_⟩,bf⟩:=D2.m.lanCell hi
  rw[Nat.mul_comm 5 i]at b3
  refine⟨⟨by rw[cell_of_row _ _ _ _ _ _ hbx];rfl,by rw[cell_of_row _ _ _ _ _ _ hqq,cq3 K hKs,<-hQl];rfl,by simp[World.frozen?,hqq]⟩,_,rfl,b3,bf _,fun W5 hW5=> ?_⟩
  have D3:=D2.quiet hW5
  have D4:=D3.go (D3.m.sends hi hh)
  obtain⟨⟨f0,_⟩,_⟩:=D4.m.lanCell hi
  rw[Nat.mul_comm 5 i]at f0
  have f1:(W5.setCell ⟨Z.lb,i*5+3,none⟩ (.int .i64 ((d.lan i).sent+1))).cell? ⟨Z.lb,i*5,none⟩=some (.int .i64 (upd d.lan i ⟨(d.lan i).n,true,(d.lan i).sent+1,(d.lan i).acked⟩ i).n):=f0
  rw[zad]at f1
  exact⟨_,D4,f1⟩
 have HBl:Hid (∀W,Fr [] w0 W->(eb<W.heap.size/\eb∉(qb (Z.q K).lo).toList)/\(Z.lb<W.heap.size/\Z.lb∉(qb (Z.q K).lo).toList)/\(Z.qq<W.heap.size/\Z.qq∉(qb (Z.q K).lo).toList)/\(Z.sb<W.heap.size/\Z.sb∉(qb (Z.q K).lo).toList)/\ ∀W',Fr (qb (Z.q K).lo).toList W W'->W'.frozen? ⟨Z.qq,K,none⟩=false):=by
  intro W hW
  have D:=hm.dr.quiet hW
  obtain⟨cq,cq1,cq2,cq3⟩:=D.m.pm 3
  obtain⟨cl,cl1,_⟩:=D.m.pm 2
  have hE2:=HEbx.out _ _ _ D
  have hqn:Z.qq∉(qb (Z.q K).lo).toList:=fun hb=>by have:=D.m.ap (K+8) 3 Z.qq hb (by simp[Zd.part]);omega
  refine⟨⟨lt_of_block hE2,fun hb=> ?_⟩,⟨lt_of_block cl1,fun hb=> ?_⟩,⟨lt_of_block cq1,hqn⟩,⟨lt_of_block D.m.box,fun hb=> ?_⟩,fun W' hW'=> ?_⟩
  ·have h1:w.heap.size=eb:=HEB.out
   have:=(h.pm (K+8)).lt eb hb
   omega
  ·have:=D.m.ap (K+8) 2 Z.lb hb (by simp[Zd.part]);omega
  ·have:=D.m.ap (K+8) 0 Z.sb hb (by simp[Zd.part]);omega
  ·have:=hW'.keep cq1 hqn
   simp[World.frozen?,this]
 have HQ0:Hid (∀W,Fr [] w0 W->QW W (Z.q K).lo (d.que K).length (Z.q K).c (d.que K)):=fun W hW=>by
  have:=(hm.quiet hW).pm (K+8)
  rw[<-hQl]
  exact this
 have HOn:Hid (c.q<=((d.que K).length:Int)->lanD c (txs ts) d i=((Te.no,false),d)):=fun hf=>by
  unfold lanD
  rw[if_neg (by rw[hh];decide),if_pos hs,hshd,Int.toNat_natCast,if_pos hf]
 have HOy:Hid (¬c.q<=((d.que K).length:Int)->lanD c (txs ts) d i=((⟨5,(d.lan i).n,(K:Int),0⟩,true),{ d with que:=upd d.que K (d.que K++[((i:Int)+1,(d.lan i).n)]),lan:=upd d.lan i ⟨(d.lan i).n,true,(d.lan i).sent+1,(d.lan i).acked⟩ })):=fun hf=>by
  unfold lanD
  rw[if_neg (by rw[hh];decide),if_pos hs,hshd,Int.toNat_natCast,if_neg hf]
 obtain⟨Ln,hLn⟩: ∃Ln,Ln=c.l.toNat:=⟨_,rfl⟩
 rw[<-hLn]at c12 hi
 obtain⟨Sn,hSn⟩: ∃Sn,Sn=c.s.toNat:=⟨_,rfl⟩
 rw[<-hSn]at HCf HG hKs
 obtain⟨tk,htk⟩: ∃tk,tk=e.t:=⟨_,rfl⟩
 have hwr:IntKind.i64.wrap (tk-1)=(i:Int):=by rw[IntKind.wrap_i64,htk,het];omega
 rw[<-htk]at et HCf HG
 have hi2:(i:Int)<(Ln:Int):=by omega
 have hi0:(0:Int)<=(i:Int):=by omega
 have ht1:1<=tk:=by omega
 have ht2:tk<=65536:=by omega
 obtain⟨NN,hNN⟩: ∃NN,NN=(dd t.ws).length:=⟨_,rfl⟩
 have HC2:Hid (∀W,Fr [] w0 W->Calls _ _ _ W _):=HC
 obtain⟨sn,hsn⟩: ∃sn:Nat,sn=(d.lan i).sent:=⟨_,rfl⟩
 obtain⟨nm,hnm⟩: ∃nm,nm=(d.lan i).n:=⟨_,rfl⟩
 have hN32:NN<=32:=by rw[hNN];have:=zjy t.ws;have:=hokT.2.2.1;rw[m2]at this;omega
 rw[<-hsn]at l3 HCf HG HRow HOy hsl
 rw[<-hnm]at l0 HC2 HCf HG HOy
 rw[<-hNN]at HC2 hsl HRow
 have hs2:decide ((sn:Int)<(NN:Int))=true:=by simp;omega
 have hs3:decide (sn<NN)=true:=by simp;omega
 have hs4:(sn:Int)<(NN:Int):=by omega
 have hs5:(0:Int)<=(sn:Int):=by omega
 have hK0:(0:Int)<=(K:Int):=by omega
 have hK1:(K:Int)<(Sn:Int):=by omega
 obtain⟨M,hM⟩: ∃M,M=(d.que K).length:=⟨_,rfl⟩
 rw[<-hM]at HCf HG HQ0 HOn HOy hqlK
 obtain⟨key,hkey⟩: ∃key,key=y.key:=⟨_,rfl⟩
 rw[<-hkey]at HSh HRow hyk
 obtain⟨cq,hcq⟩: ∃cq,cq=c.q:=⟨_,rfl⟩
 obtain⟨qlo,hqlo⟩: ∃qlo,qlo=(Z.q K).lo:=⟨_,rfl⟩
 obtain⟨qc,hqcc⟩: ∃qc,qc=(Z.q K).c:=⟨_,rfl⟩
 rw[<-hqlo,<-hqcc]at HCf HG HQ0
 rw[<-hqlo]at HBl
 rw[<-hcq]at HCf HSh HOn HOy
 clear h hm hE hLn hSn het htk hh hls hss hqs hk m2 m3 HC hsn hnm hNN hs hM hkey hcq hqlo hqcc hql hqc hqz hQl hshd hsh hK hlow hym hyk2 hy hokT hnl hn1 HEbx
 by_cases hfull:cq<=(M:Int)
 ·have HO:=HOn.out hfull
  have HO2:Hid (lanD c (txs ts) d i=((Te.no,false),d)):=HO
  have hf2:decide (cq<=(M:Int))=true:=by simpa using hfull
  clear HO HOn HOy HG HQ0
  go_enter Tryz.func84,Tryz.ntmps84
  go_upto_region 1 with fail
  rw[HW0.out,HRB.out,HEB.out]
  go_quiet (fail)
  go_wp2_with fail
  refine Calls.mono (HC2.out _ (Fr.drewN [] w0 nq)) ?_
  rintro e1 w1 ⟨ro,rc,rfl,hO,hF1⟩
  obtain⟨bb,off,rfl,hrw⟩:=HRow.out _ _ _ _ hO
  have HF1:Hid (Fr [] w0 w1):=(Fr.drewN [] w0 nq).then hF1
  have HRw:Hid (∀W',Fr [] w1 W'->W'.cell? ⟨bb,off+sn*3,none⟩=some (.string key)):=hrw
  obtain⟨y0,y1,y2,y3,y4,y5,y6,y7,y8⟩:=HCf.out w1 HF1.out
  clear hO hF1 hrw HC2 HRow l0 l2 l3 l4 m1 c12 et
  go_upto_region 10 with fail
  have f0: ∀y:Wd13 w1,y.W.cell? ⟨Z.sb,0,none⟩=some (.int .i64 c.l):=fun y=>(HCf.out _ (HF1.out.then y.h)).1
  have f1: ∀y:Wd13 w1,y.W.cell? ⟨Z.sb,1,none⟩=some (.int .i64 c.s):=fun y=>(HCf.out _ (HF1.out.then y.h)).2.1
  have f2: ∀y:Wd13 w1,y.W.cell? ⟨Z.sb,2,none⟩=some (.int .i64 c.w):=fun y=>(HCf.out _ (HF1.out.then y.h)).2.2.1
  have f3: ∀y:Wd13 w1,y.W.cell? ⟨Z.sb,3,none⟩=some (.int .i64 cq):=fun y=>(HCf.out _ (HF1.out.then y.h)).2.2.2.1
  have f4: ∀y:Wd13 w1,y.W.cell? ⟨Z.lb,i*5+3,none⟩=some (.int .i64 (sn:Int)):=fun y=>(HCf.out _ (HF1.out.then y.h)).2.2.2.2.1
  have f5: ∀y:Wd13 w1,y.W.cell? ⟨bb,off+sn*3,none⟩=some (.string key):=fun y=>HRw.out _ y.h
  clear y0 y1 y2 y3 y4 y5 y6 y7 y8
  refine zau (w1:=w1) (by kernel_rfl) (by kernel_rfl) (Fr.refl _ _) ?_
  repeat (go_big_quiet_step ((go_at_call 132;with_reducible refine (HSh.out _).mono ?_;exact fun e w3 hh=>⟨hh.1,⟨_,Fr.then (Wd13.h _) hh.2⟩,rfl⟩)))
  refine wpQuiet_nil ?_
  rintro _ ⟨yy,rfl⟩
  obtain⟨w5,hw5⟩: ∃w5,w5=yy.W:=⟨_,rfl⟩
  have HF5:Hid (Fr [] w0 w5):=by show Fr _ _ _;rw[hw5];exact HF1.out.then yy.h
  rw[<-hw5]
  clear hw5 f0 f1 f2 f3 f4 f5 HSh HRw
  obtain⟨y0,y1,y2,y3,y4,y5,y6,y7,y8⟩:=HCf.out w5 HF5.out
  go_wp2_with fail
  go_quiet (fail)
  have D1:=HDq.out _ (HF5.out.then (Fr.drewN [] w5 nq))
  have HB:=HBox.out _ _ _ D1
  have HDD:Hid (Dr _ _ _ _ _ _ _ _ _):=D1
  clear D1 y0 y1 y2 y3 y4 y5 y6 y7 y8 HCf
  go_wp2_with (refine zab rfl _ _ rfl rb 0 0 0 0 0 0 rfl rfl 0 0 0 0 0 0 HB ?_;intro w6 hw6 hf6)
  refine bodyPost_ret (zai rfl _ _ _ rb _ rfl (zae hw6.out)) rfl ?_
  rw[HO2.out]
  exact⟨Z,rfl,HFin.out _ _ _ _ HDD.out hf6⟩
 ·have HO:=HOy.out hfull
  have HO2:Hid (lanD c (txs ts) d i=_):=HO
  have hf2:decide (cq<=(M:Int))=false:=by simpa using hfull
  have hf3:(M:Int)<cq:=by omega
  clear HO HOn HOy hfull
  go_enter Tryz.func84,Tryz.ntmps84
  go_upto_region 1 with fail
  rw[HW0.out,HRB.out,HEB.out]
  go_quiet (fail)
  go_wp2_with fail
  refine Calls.mono (HC2.out _ (Fr.drewN [] w0 nq)) ?_
  rintro e1 w1 ⟨ro,rc,rfl,hO,hF1⟩
  obtain⟨bb,off,rfl,hrw⟩:=HRow.out _ _ _ _ hO
  have HF1:Hid (Fr [] w0 w1):=(Fr.drewN [] w0 nq).then hF1
  have HRw:Hid (∀W',Fr [] w1 W'->W'.cell? ⟨bb,off+sn*3,none⟩=some (.string key)):=hrw
  obtain⟨y0,y1,y2,y3,y4,y5,y6,y7,y8⟩:=HCf.out w1 HF1.out
  clear hO hF1 hrw HC2 HRow l0 l2 l3 l4 m1 c12 et
  go_upto_region 10 with fail
  have f0: ∀y:Wd13 w1,y.W.cell? ⟨Z.sb,0,none⟩=some (.int .i64 c.l):=fun y=>(HCf.out _ (HF1.out.then y.h)).1
  have f1: ∀y:Wd13 w1,y.W.cell? ⟨Z.sb,1,none⟩=some (.int .i64 c.s):=fun y=>(HCf.out _ (HF1.out.then y.h)).2.1
  have f2: ∀y:Wd13 w1,y.W.cell? ⟨Z.sb,2,none⟩=some (.int .i64 c.w):=fun y=>(HCf.out _ (HF1.out.then y.h)).2.2.1
  have f3: ∀y:Wd13 w1,y.W.cell? ⟨Z.sb,3,none⟩=some (.int .i64 cq):=fun y=>(HCf.out _ (HF1.out.then y.h)).2.2.2.1
  have f4: ∀y:Wd13 w1,y.W.cell? ⟨Z.lb,i*5+3,none⟩=some (.int .i64 (sn:Int)):=fun y=>(HCf.out _ (HF1.out.then y.h)).2.2.2.2.1
  have f5: ∀y:Wd13 w1,y.W.cell? ⟨bb,off+sn*3,none⟩=some (.string key):=fun y=>HRw.out _ y.h
  clear y0 y1 y2 y3 y4 y5 y6 y7 y8
  refine zau (w1:=w1) (by kernel_rfl) (by kernel_rfl) (Fr.refl _ _) ?_
  repeat (go_big_quiet_step ((go_at_call 132;with_reducible refine (HSh.out _).mono ?_;exact fun e w3 hh=>⟨hh.1,⟨_,Fr.then (Wd13.h _) hh.2⟩,rfl⟩)))
  refine wpQuiet_nil ?_
  rintro _ ⟨yy,rfl⟩
  obtain⟨w5,hw5⟩: ∃w5,w5=yy.W:=⟨_,rfl⟩
  have HF5:Hid (Fr [] w0 w5):=by show Fr _ _ _;rw[hw5];exact HF1.out.then yy.h
  rw[<-hw5]
  clear hw5 f0 f1 f2 f3 f4 f5 HSh HRw
  obtain⟨y0,y1,y2,y3,y4,y5,y6,y7,y8⟩:=HCf.out w5 HF5.out
  go_wp2_with fail
  go_quiet (fail)
  obtain⟨w7,hw7⟩: ∃w7,w7=w5.drewN nq:=⟨_,rfl⟩
  have HF7:Hid (Fr [] w0 w7):=by show Fr _ _ _;rw[hw7];exact HF5.out.then (Fr.drewN [] w5 nq)
  rw[<-hw7]
  clear hw7 y0 y1 y2 y3 y4 y5 y6 y7 y8
  obtain⟨y0,y1,y2,y3,y4,y5,y6,y7,y8⟩:=HCf.out w7 HF7.out
  obtain⟨g1,g2,g3,g4,g5⟩:=HBl.out w7 HF7.out
  have HX:Hid (∀W',Fr [] w7 W'->QW W' qlo M qc (d.que K)):=fun W' hW'=>HQ0.out _ (HF7.out.then hW')
  have HGG:Hid (∀W1 lo' c' w',Fr [] w7 W1->_):=fun W1 lo' c' w' k1 k2 k3 k4=>HG.out w7 W1 lo' c' w' HF7.out k1 k2 k3 k4
  clear HQ0 HG HCf HDq
  go_upto_region 13 with fail
  refine Rl.reg (li:=i) rfl rfl rfl rfl rfl g1 g2 g3 g4 y5 y6 y8 y7 hK0 hK1 g5 HX.out hqlK ?_
  clear y0 y1 y2 y3 y4 y5 y6 y7 y8 g1 g2 g3 g4 g5 HX
  rintro⟨xb,lo',c'⟩ W1 w3 k1 k2 k3 k4
  obtain⟨k9,W4,hW4,p1,p2,p3⟩:=HGG.out W1 lo' c' w3 k1 k2 k3 k4
  simp only at hW4 ⊢
  rw[hW4]
  have HP:Hid (∀W5,Fr [] W4 W5->_):=p3
  clear p3 hW4 k1 k2 k3 k4 k9 HGG
  obtain⟨Z5,D5,n1⟩:=HP.out W4 (Fr.refl [] W4)
  have HB:=HBox.out _ _ _ D5
  have HDD:Hid (Dr _ _ _ _ _ _ _ _ _):=D5
  clear D5 HP
  simp only[Rl.pairs,puts,Act.put]
  rename_i KK hKK
  show KK _ _
  refine hKK _ _ ?_
  go_wp2_with (refine zab rfl _ _ rfl rb 0 5 nm K 0 0 rfl rfl 0 0 0 0 0 0 HB ?_;intro w6 hw6 hf6)
  refine bodyPost_ret (zai rfl _ _ _ rb _ rfl (zae hw6.out)) rfl ?_
  rw[HO2.out]
  exact⟨Z5,rfl,HFin.out _ _ _ _ HDD.out hf6⟩
end
theorem zsi {wS w:World} {Z:Zd} {c:Cf} {ts:List Tm} {xs:List Int} {d:Ds} (h:DsM wS w Z c ts xs d) (e:Ev) (i:Nat) (hi:i<c.l.toNat) (het:e.t=(i:Int)+1) (hk:Lk (txs ts)) (b1: ∀n∈d.line,1<=n/\n<=(ts.length:Int)) (hl:d.gone.length<=1099511627776) (hql: ∀k,k<16->(d.que k).length<=1099511627776) :
  Calls Tryz.prog 84 #[.pointer (some ⟨Z.sb,0,none⟩),.agg #[.int .i64 e.t,.int .u8 e.k,.int .i64 e.n,.int .i64 e.s,.int .i64 e.c,.int .i64 e.m]] w (DstP wS w Z c ts xs (lanD c (txs ts) d i)):=by
 cases hh:(d.lan i).has with
 | false =>
  cases hR:d.line with
  | nil=>exact zow h e i hi het hh hR
  | cons n r=>exact zox h e i hi het hh n r hR (b1 n (by rw[hR];exact List.mem_cons_self)) hk
 | true =>
  by_cases hs:(d.lan i).sent<(shs c (txs ts) (d.lan i).n).length
  ·exact zpb h e i hi het hh hs hk hql
  ·by_cases ha:(d.lan i).acked<(shs c (txs ts) (d.lan i).n).length
   ·exact zoy h e i hi het hh hs ha hk
   ·exact zoz h e i hi het hh hs ha hl hk
structure Kd (d:Ds) (k:Nat):Prop where
 len:d.cal.length<=k
 cal: ∀x∈d.cal,x.asked<=k/\x.served<=k
 ack: ∀i,(d.lan i).acked<=k
theorem Kd.mono {d:Ds} {k k':Nat} (h:Kd d k) (hk:k<=k'):Kd d k':=⟨Nat.le_trans h.len hk,fun x hx=>⟨Nat.le_trans (h.cal x hx).1 hk,Nat.le_trans (h.cal x hx).2 hk⟩,fun i=>Nat.le_trans (h.ack i) hk⟩
theorem Kd.same {d d':Ds} {k:Nat} (h:Kd d k) (h1:d'.cal=d.cal) (h2: ∀i,(d'.lan i).acked<=(d.lan i).acked):Kd d' k:=⟨by rw[h1];exact h.len,by rw[h1];exact h.cal,fun i=>Nat.le_trans (h2 i) (h.ack i)⟩
theorem zkx {f:Nat->Dl} {i:Nat} {x:Dl} (hx:x.acked<=(f i).acked): ∀j,(upd f i x j).acked<=(f j).acked:=fun j=>by
 by_cases q:j=i
 ·subst q;rw[zad];exact hx
 ·rw[zaa _ _ q];exact Nat.le_refl _
theorem Kd.fed {c:Cf} {T:List Tx} {xs:List Int} {d:Ds} {k:Nat} (h:Kd d k):Kd (fedD c T xs d).2 k:=by
 unfold fedD
 split
 ·split
  ·exact h.same rfl (fun i=>Nat.le_refl _)
  ·exact h
 ·split
  ·exact h.same rfl (fun i=>Nat.le_refl _)
  ·split
   ·exact h
   ·exact h.same rfl (fun i=>Nat.le_refl _)
theorem Kd.lan {c:Cf} {T:List Tx} {d:Ds} {k:Nat} (h:Kd d k) (i:Nat):Kd (lanD c T d i).2 k:=by
 unfold lanD
 split
 ·split
  ·exact h
  ·exact h.same rfl (zkx (Nat.zero_le _))
 ·split
  ·split
   ·exact h
   ·exact h.same rfl (zkx (Nat.le_refl _))
  ·split
   ·exact h
   ·exact h.same rfl (zkx (Nat.le_refl _))
theorem Kd.own {d:Ds} {k:Nat} (h:Kd d k) (j:Nat):Kd (ownD d j).2 (k+1):=by
 unfold ownD
 split
 ·exact h.mono (by omega)
 ·rename_i q r _
  refine⟨?_,?_,fun i=> ?_⟩
  ·show (if 0<q.1 then d.cal else d.cal.map (srv q.1)).length<=k+1
   have:=h.len
   split
   ·omega
   ·simp;omega
  ·show ∀x∈(if 0<q.1 then d.cal else d.cal.map (srv q.1)),_
   intro x hx
   split at hx
   ·have:=h.cal x hx;omega
   ·obtain⟨y,hy,rfl⟩:=List.mem_map.1 hx
    have:=h.cal y hy
    unfold srv
    split
    ·simp only;omega
    ·omega
  ·show ((if 0<q.1 then upd d.lan (q.1-1).toNat { d.lan (q.1-1).toNat with acked:=(d.lan (q.1-1).toNat).acked+1 } else d.lan) i).acked<=k+1
   have hi:=h.ack i
   split
   ·by_cases e:i=(q.1-1).toNat
    ·subst e
     rw[zad]
     simp only
     omega
    ·rw[zaa _ _ e];omega
   ·omega
theorem Kd.gat {d:Ds} {k:Nat} (h:Kd d k):Kd (gatD d).2 k:=by
 unfold gatD
 split
 ·exact h
 ·exact h.same rfl (fun i=>Nat.le_refl _)
theorem Kd.calls {c:Cf} {d:Ds} {k:Nat} (h:Kd d k) (e:Ev):Kd (calD c d e).2 (k+1):=by
 have hm:=h.mono (Nat.le_succ k)
 have hmap: ∀f:Dc->Dc,(∀x,(f x).asked<=x.asked+1/\(f x).served<=x.served+1)-> ∀d':Ds,d'.cal=d.cal.map f->d'.lan=d.lan->Kd d' (k+1):=fun f hf d' h1 h2=>by
  refine⟨by rw[h1,List.length_map];exact hm.len,fun x hx=> ?_,fun i=>by rw[h2];exact hm.ack i⟩
  rw[h1]at hx
  obtain⟨y,hy,rfl⟩:=List.mem_map.1 hx
  have:=h.cal y hy
  have:=hf y
  omega
 unfold calD
 split
 ·refine⟨?_,fun x hx=> ?_,hm.ack⟩
  ·show (d.cal++[_]).length<=k+1
   have:=h.len
   simp;omega
  ·have hx:x∈d.cal++[(⟨e.t,0,0,false⟩:Dc)]:=hx
   rcases List.mem_append.1 hx with q|q
   ·exact hm.cal x q
   ·simp only[List.mem_singleton]at q
    subst q
    exact⟨Nat.zero_le _,Nat.zero_le _⟩
 ·split
  ·exact hm
  ·split
   ·split
    ·exact hmap (askC e.t) (fun x=>by unfold askC;split<;>simp<;>omega) _ rfl rfl
    ·exact hm
   ·split
    ·exact hm
    ·split
     ·exact hmap (endC e.t) (fun x=>by unfold endC;split<;>simp<;>omega) _ rfl rfl
     ·exact hm
theorem Kd.nxt {c:Cf} {T:List Tx} {xs:List Int} {d:Ds} {k:Nat} (h:Kd d k) (e:Ev):Kd (nxtD c T xs d e).2 (k+1):=by
 unfold nxtD
 split
 ·exact h.calls e
 ·split
  ·exact h.fed.mono (Nat.le_succ k)
  ·split
   ·exact (h.lan _).mono (Nat.le_succ k)
   ·split
    ·exact h.own _
    ·split
     ·exact h.gat.mono (Nat.le_succ k)
     ·exact h.mono (Nat.le_succ k)
end Go.Proofs.YtaaghcimfcjehaaGreatDoor
