/- Contracts and plain lemmas of this claim. -/
import Derived.Test.YtaaghcimfcjehaaGreatDoorGp23
import Derived.Great.Frames
import Derived.Laws.MakeOwn
set_option linter.unusedSimpArgs false
set_option linter.unusedVariables false
namespace Go.Proofs.YtaaghcimfcjehaaGreatDoor
open Go.ChangeShapes Go.WideShapes Go.ChangeAt Go.RowKit Go.Lib Go.Maps
def n0:Oper:={ dst:=some 36,op:=Op.load 23 (Operand.tmp 3),type:=23,pos:= "story.go:52",after:= #[],guard:=none }
def n1:Oper:={ dst:=some 37,op:=Op.move (Operand.tmp 1),type:=24,pos:= "story.go:52",after:= #[],guard:=none }
def n2:Oper:={ dst:=some 38,op:=Op.move (Operand.tmp 10),type:=103,pos:= "story.go:52",after:= #[],guard:=none }
def n3:Oper:={ dst:=some 39,op:=Op.call { callee:=Callee.value (Operand.func 76),args:= #[],argTypes:= #[] },type:=107,pos:= "story.go:56",after:= #[],guard:=none }
def n4:Oper:={ dst:=some 40,op:=Op.fieldAddr 28 (Operand.tmp 5) 0,type:=0,pos:= "story.go:52",after:= #[],guard:=none }
def n5:Oper:={ dst:=some 41,op:=Op.load 3 (Operand.tmp 40),type:=3,pos:= "story.go:52",after:= #[{ on:=4,ground:=Ground.data }],guard:=none }
def n6:Oper:={ dst:=some 42,op:=Op.fieldAddr 23 (Operand.tmp 3) 0,type:=0,pos:= "story.go:52",after:= #[],guard:=none }
def n7:Oper:={ dst:=some 43,op:=Op.load 3 (Operand.tmp 42),type:=3,pos:= "story.go:52",after:= #[{ on:=6,ground:=Ground.data }],guard:=none }
def n8:Oper:={ dst:=some 44,op:=Op.makeSlice 109 (Operand.tmp 43) (Operand.tmp 43),type:=109,pos:= "story.go:52",after:= #[{ on:=7,ground:=Ground.data },{ on:=7,ground:=Ground.data }],guard:=none }
def n9:Oper:={ dst:=some 45,op:=Op.fieldAddr 23 (Operand.tmp 3) 1,type:=0,pos:= "story.go:52",after:= #[],guard:=none }
def n10:Oper:={ dst:=some 46,op:=Op.load 3 (Operand.tmp 45),type:=3,pos:= "story.go:52",after:= #[{ on:=9,ground:=Ground.data }],guard:=none }
def n11:Oper:={ dst:=some 47,op:=Op.makeSlice 110 (Operand.tmp 46) (Operand.tmp 46),type:=110,pos:= "story.go:52",after:= #[{ on:=10,ground:=Ground.data },{ on:=10,ground:=Ground.data }],guard:=none }
def n12:Oper:={ dst:=some 48,op:=Op.makeMap 111 none,type:=111,pos:= "story.go:52",after:= #[],guard:=none }
def n13:Oper:={ dst:=some 49,op:=Op.makeMap 112 none,type:=112,pos:= "story.go:52",after:= #[],guard:=none }
def n14:Oper:={ dst:=some 50,op:=Op.build 114 #[(0,Operand.tmp 36),(1,Operand.tmp 37),(2,Operand.tmp 38),(3,Operand.tmp 39),(4,Operand.tmp 41),(8,Operand.tmp 44),(9,Operand.tmp 47),(10,Operand.tmp 48),(11,Operand.tmp 49)],type:=114,pos:= "story.go:52",after:= #[{ on:=0,ground:=Ground.data },{ on:=1,ground:=Ground.data },{ on:=2,ground:=Ground.data },{ on:=3,ground:=Ground.data },{ on:=5,ground:=Ground.data },{ on:=8,ground:=Ground.data },{ on:=11,ground:=Ground.data },{ on:=12,ground:=Ground.data },{ on:=13,ground:=Ground.data }],guard:=none }
def n15:Oper:={ dst:=some 51,op:=Op.box 114 (Operand.tmp 50),type:=71,pos:= "story.go:52",after:= #[{ on:=14,ground:=Ground.data }],guard:=none }
def n16:Oper:={ dst:=some 6,op:=Op.assign (Operand.tmp 51),type:=71,pos:= "story.go:52",after:= #[{ on:=15,ground:=Ground.data },{ on:=3,ground:=Ground.chain },{ on:=0,ground:=Ground.phase },{ on:=1,ground:=Ground.phase },{ on:=2,ground:=Ground.phase },{ on:=3,ground:=Ground.phase },{ on:=4,ground:=Ground.phase },{ on:=5,ground:=Ground.phase },{ on:=6,ground:=Ground.phase },{ on:=7,ground:=Ground.phase },{ on:=8,ground:=Ground.phase },{ on:=9,ground:=Ground.phase },{ on:=10,ground:=Ground.phase },{ on:=11,ground:=Ground.phase },{ on:=12,ground:=Ground.phase },{ on:=13,ground:=Ground.phase },{ on:=14,ground:=Ground.phase },{ on:=15,ground:=Ground.phase }],guard:=none }
def n17:Oper:={ dst:=some 7,op:=Op.assign (Operand.const (Value.bool true)),type:=4,pos:= "story.go:52",after:= #[{ on:=16,ground:=Ground.chain },{ on:=0,ground:=Ground.phase },{ on:=1,ground:=Ground.phase },{ on:=2,ground:=Ground.phase },{ on:=3,ground:=Ground.phase },{ on:=4,ground:=Ground.phase },{ on:=5,ground:=Ground.phase },{ on:=6,ground:=Ground.phase },{ on:=7,ground:=Ground.phase },{ on:=8,ground:=Ground.phase },{ on:=9,ground:=Ground.phase },{ on:=10,ground:=Ground.phase },{ on:=11,ground:=Ground.phase },{ on:=12,ground:=Ground.phase },{ on:=13,ground:=Ground.phase },{ on:=14,ground:=Ground.phase },{ on:=15,ground:=Ground.phase },{ on:=16,ground:=Ground.phase }],guard:=none }
def ops7:Array Oper:= #[n0,n1,n2,n3,n4,n5,n6,n7,n8,n9,n10,n11,n12,n13,n14,n15,n16,n17]
def dl7:List Nat:=[36,37,38,39,40,41,42,43,44,45,46,47,48,49,50,51,6,7]
theorem dst7: ∀i,zal ops7 i=dl7[i]?
 | 0=>rfl
 | 1=>rfl
 | 2=>rfl
 | 3=>rfl
 | 4=>rfl
 | 5=>rfl
 | 6=>rfl
 | 7=>rfl
 | 8=>rfl
 | 9=>rfl
 | 10=>rfl
 | 11=>rfl
 | 12=>rfl
 | 13=>rfl
 | 14=>rfl
 | 15=>rfl
 | 16=>rfl
 | 17=>rfl
 | n+18=>by simp[zal,ops7,dl7]
theorem o7: ∀(i:Nat) (o:Oper),ops7[i]? = some o->(i=0/\o=n0)\/(i=1/\o=n1)\/(i=2/\o=n2)\/(i=3/\o=n3)\/(i=4/\o=n4)\/(i=5/\o=n5)\/(i=6/\o=n6)\/(i=7/\o=n7)\/(i=8/\o=n8)\/(i=9/\o=n9)\/(i=10/\o=n10)\/(i=11/\o=n11)\/(i=12/\o=n12)\/(i=13/\o=n13)\/(i=14/\o=n14)\/(i=15/\o=n15)\/(i=16/\o=n16)\/(i=17/\o=n17)
 | 0,o,h=>by have h2:some n0=some o:=h;cases h2;simp
 | 1,o,h=>by have h2:some n1=some o:=h;cases h2;simp
 | 2,o,h=>by have h2:some n2=some o:=h;cases h2;simp
 | 3,o,h=>by have h2:some n3=some o:=h;cases h2;simp
 | 4,o,h=>by have h2:some n4=some o:=h;cases h2;simp
 | 5,o,h=>by have h2:some n5=some o:=h;cases h2;simp
 | 6,o,h=>by have h2:some n6=some o:=h;cases h2;simp
 | 7,o,h=>by have h2:some n7=some o:=h;cases h2;simp
 | 8,o,h=>by have h2:some n8=some o:=h;cases h2;simp
 | 9,o,h=>by have h2:some n9=some o:=h;cases h2;simp
 | 10,o,h=>by have h2:some n10=some o:=h;cases h2;simp
 | 11,o,h=>by have h2:some n11=some o:=h;cases h2;simp
 | 12,o,h=>by have h2:some n12=some o:=h;cases h2;simp
 | 13,o,h=>by have h2:some n13=some o:=h;cases h2;simp
 | 14,o,h=>by have h2:some n14=some o:=h;cases h2;simp
 | 15,o,h=>by have h2:some n15=some o:=h;cases h2;simp
 | 16,o,h=>by have h2:some n16=some o:=h;cases h2;simp
 | 17,o,h=>by have h2:some n17=some o:=h;cases h2;simp
 | n+18,o,h=>by simp[ops7]at h
theorem hN7: ∀i j d,zal ops7 i=some d->zal ops7 j=some d->i=j:=by
 intro i j d h1 h2
 rw[dst7]at h1 h2
 have hi:=(List.getElem?_eq_some_iff.1 h1).1
 have hj:=(List.getElem?_eq_some_iff.1 h2).1
 have key: ∀i,i<18-> ∀j,j<18->dl7[i]? = dl7[j]? -> i=j:=by decide
 exact key i hi j hj (h1.trans h2.symm)
theorem hlex7: ∀(i:Nat) (o:Oper),ops7[i]? = some o-> ∀e∈o.after,Region.binds .any e=true->e.on<i:=by
 intro i o h e he hb
 have key: ∀(k:Nat) (p:Oper),(p.after.all fun e=> !Region.binds .any e||decide (e.on<k))=true-> ∀e∈p.after,Region.binds .any e=true->e.on<k:=by
  intro k p hp e he hb
  rw[Array.all_eq_true_iff_forall_mem]at hp
  have:=hp e he
  simpa[hb]using this
 rcases o7 i o h with ⟨rfl,rfl⟩|⟨rfl,rfl⟩|⟨rfl,rfl⟩|⟨rfl,rfl⟩|⟨rfl,rfl⟩|⟨rfl,rfl⟩|⟨rfl,rfl⟩|⟨rfl,rfl⟩|⟨rfl,rfl⟩|⟨rfl,rfl⟩|⟨rfl,rfl⟩|⟨rfl,rfl⟩|⟨rfl,rfl⟩|⟨rfl,rfl⟩|⟨rfl,rfl⟩|⟨rfl,rfl⟩|⟨rfl,rfl⟩|⟨rfl,rfl⟩
 ·exact key 0 n0 (by simp[n0,Region.binds]) e he hb
 ·exact key 1 n1 (by simp[n1,Region.binds]) e he hb
 ·exact key 2 n2 (by simp[n2,Region.binds]) e he hb
 ·exact key 3 n3 (by simp[n3,Region.binds]) e he hb
 ·exact key 4 n4 (by simp[n4,Region.binds]) e he hb
 ·exact key 5 n5 (by simp[n5,Region.binds]) e he hb
 ·exact key 6 n6 (by simp[n6,Region.binds]) e he hb
 ·exact key 7 n7 (by simp[n7,Region.binds]) e he hb
 ·exact key 8 n8 (by simp[n8,Region.binds]) e he hb
 ·exact key 9 n9 (by simp[n9,Region.binds]) e he hb
 ·exact key 10 n10 (by simp[n10,Region.binds]) e he hb
 ·exact key 11 n11 (by simp[n11,Region.binds]) e he hb
 ·exact key 12 n12 (by simp[n12,Region.binds]) e he hb
 ·exact key 13 n13 (by simp[n13,Region.binds]) e he hb
 ·exact key 14 n14 (by simp[n14,Region.binds]) e he hb
 ·exact key 15 n15 (by simp[n15,Region.binds]) e he hb
 ·exact key 16 n16 (by simp[n16,Region.binds]) e he hb
 ·exact key 17 n17 (by simp[n17,Region.binds]) e he hb
theorem hg7 {a0:Act} (hz:a0.tmps.size=52): ∀(i:Nat) (o:Oper),ops7[i]? = some o->o.guard=none/\ ∃d,o.dst=some d/\d<a0.tmps.size:=by
 intro i o h
 rw[hz]
 rcases o7 i o h with ⟨rfl,rfl⟩|⟨rfl,rfl⟩|⟨rfl,rfl⟩|⟨rfl,rfl⟩|⟨rfl,rfl⟩|⟨rfl,rfl⟩|⟨rfl,rfl⟩|⟨rfl,rfl⟩|⟨rfl,rfl⟩|⟨rfl,rfl⟩|⟨rfl,rfl⟩|⟨rfl,rfl⟩|⟨rfl,rfl⟩|⟨rfl,rfl⟩|⟨rfl,rfl⟩|⟨rfl,rfl⟩|⟨rfl,rfl⟩|⟨rfl,rfl⟩
 ·exact⟨rfl,36,rfl,by decide⟩
 ·exact⟨rfl,37,rfl,by decide⟩
 ·exact⟨rfl,38,rfl,by decide⟩
 ·exact⟨rfl,39,rfl,by decide⟩
 ·exact⟨rfl,40,rfl,by decide⟩
 ·exact⟨rfl,41,rfl,by decide⟩
 ·exact⟨rfl,42,rfl,by decide⟩
 ·exact⟨rfl,43,rfl,by decide⟩
 ·exact⟨rfl,44,rfl,by decide⟩
 ·exact⟨rfl,45,rfl,by decide⟩
 ·exact⟨rfl,46,rfl,by decide⟩
 ·exact⟨rfl,47,rfl,by decide⟩
 ·exact⟨rfl,48,rfl,by decide⟩
 ·exact⟨rfl,49,rfl,by decide⟩
 ·exact⟨rfl,50,rfl,by decide⟩
 ·exact⟨rfl,51,rfl,by decide⟩
 ·exact⟨rfl,6,rfl,by decide⟩
 ·exact⟨rfl,7,rfl,by decide⟩
def zLn (n:Nat):Array Value:=madeCells #[.int .i64 0,.slice none 0 0] n
def zQu (n:Nat):Array Value:=madeCells #[.slice none 0 0] n
def Ph (c:Cf) (lo:Option Addr) (M mc g:Nat) (m:Int) (b3 b5:Nat):Nat->(Nat->Value)->List Nat->World->Prop
 | 0,ρ,B,w=>B=[]/\ρ 36= .agg #[.int .i64 c.l,.int .i64 c.s,.int .i64 c.w,.int .i64 c.q]
 | 1,ρ,B,w=>B=[]/\ρ 37= .slice lo M mc
 | 2,ρ,B,w=>B=[]/\ρ 38= .pointer (some ⟨g,0,none⟩)
 | 3,ρ,B,w=> ∃tb,ρ 39= .pointer (some ⟨tb,0,none⟩)/\Tb w tb B 0 Dt.none
 | 4,ρ,B,w=>B=[]/\ρ 40= .pointer (some ⟨b5,0,none⟩)
 | 5,ρ,B,w=>B=[]/\ρ 41= .int .i64 m
 | 6,ρ,B,w=>B=[]/\ρ 42= .pointer (some ⟨b3,0,none⟩)
 | 7,ρ,B,w=>B=[]/\ρ 43= .int .i64 c.l
 | 8,ρ,B,w=> ∃lb,ρ 44= .slice (some ⟨lb,0,none⟩) c.l.toNat c.l.toNat/\B=[lb]/\w.heap[lb]? = some (.cells (zLn (c.l.toNat*2)) 237 (0,0))
 | 9,ρ,B,w=>B=[]/\ρ 45= .pointer (some ⟨b3,1,none⟩)
 | 10,ρ,B,w=>B=[]/\ρ 46= .int .i64 c.s
 | 11,ρ,B,w=> ∃qq,ρ 47= .slice (some ⟨qq,0,none⟩) c.s.toNat c.s.toNat/\B=[qq]/\w.heap[qq]? = some (.cells (zQu (c.s.toNat*1)) 25 (0,0))
 | 12,ρ,B,w=> ∃ob,ρ 48= .map (some ob)/\B=[ob]/\MapG kOut w ob 0 (fun _=>none)
 | 13,ρ,B,w=> ∃cb,ρ 49= .map (some cb)/\B=[cb]/\MapG kCal w cb 0 (fun _=>none)
 | 14,ρ,B,w=>B=[]/\ρ 50= .agg #[.int .i64 c.l,.int .i64 c.s,.int .i64 c.w,.int .i64 c.q,ρ 37,ρ 38,ρ 39,ρ 41,.bool false,.slice none 0 0,.slice none 0 0,ρ 44,ρ 47,ρ 48,ρ 49]
 | 15,ρ,B,w=> ∃sb cells,ρ 50= .agg cells/\ρ 51= .pointer (some ⟨sb,0,none⟩)/\B=[sb]/\w.heap[sb]? = some (.cells cells 114 (0,0))
 | 16,ρ,B,w=>B=[]/\ρ 6=ρ 51
 | 17,ρ,B,w=>B=[]/\ρ 7= .bool true
 | _,ρ,B,w=>True
theorem hPh7 (c:Cf) (lo:Option Addr) (M mc g:Nat) (m:Int) (b3 b5:Nat): ∀i ρ ρ' B w w',Fr [] w w'->(∀t,(zal ops7 i=some t\/ ∃j,dep ops7 i j=true/\zal ops7 j=some t)->ρ' t=ρ t)->Ph c lo M mc g m b3 b5 i ρ B w->Ph c lo M mc g m b3 b5 i ρ' B w'
 | 0,ρ,ρ',B,w,w',hf,hρ,h=>by have e36:=hρ 36 (Or.inl rfl);simp only[Ph]at h ⊢;rw[e36];exact h
 | 1,ρ,ρ',B,w,w',hf,hρ,h=>by have e37:=hρ 37 (Or.inl rfl);simp only[Ph]at h ⊢;rw[e37];exact h
 | 2,ρ,ρ',B,w,w',hf,hρ,h=>by have e38:=hρ 38 (Or.inl rfl);simp only[Ph]at h ⊢;rw[e38];exact h
 | 3,ρ,ρ',B,w,w',hf,hρ,h=>by have e39:=hρ 39 (Or.inl rfl);simp only[Ph]at h ⊢;rw[e39];obtain⟨tb,h1,h2⟩:=h;exact⟨tb,h1,h2.keep hf (by simp)⟩
 | 4,ρ,ρ',B,w,w',hf,hρ,h=>by have e40:=hρ 40 (Or.inl rfl);simp only[Ph]at h ⊢;rw[e40];exact h
 | 5,ρ,ρ',B,w,w',hf,hρ,h=>by have e41:=hρ 41 (Or.inl rfl);simp only[Ph]at h ⊢;rw[e41];exact h
 | 6,ρ,ρ',B,w,w',hf,hρ,h=>by have e42:=hρ 42 (Or.inl rfl);simp only[Ph]at h ⊢;rw[e42];exact h
 | 7,ρ,ρ',B,w,w',hf,hρ,h=>by have e43:=hρ 43 (Or.inl rfl);simp only[Ph]at h ⊢;rw[e43];exact h
 | 8,ρ,ρ',B,w,w',hf,hρ,h=>by have e44:=hρ 44 (Or.inl rfl);simp only[Ph]at h ⊢;rw[e44];obtain⟨b,h1,h2,h3⟩:=h;exact⟨b,h1,h2,hf.keep h3 (by simp)⟩
 | 9,ρ,ρ',B,w,w',hf,hρ,h=>by have e45:=hρ 45 (Or.inl rfl);simp only[Ph]at h ⊢;rw[e45];exact h
 | 10,ρ,ρ',B,w,w',hf,hρ,h=>by have e46:=hρ 46 (Or.inl rfl);simp only[Ph]at h ⊢;rw[e46];exact h
 | 11,ρ,ρ',B,w,w',hf,hρ,h=>by have e47:=hρ 47 (Or.inl rfl);simp only[Ph]at h ⊢;rw[e47];obtain⟨b,h1,h2,h3⟩:=h;exact⟨b,h1,h2,hf.keep h3 (by simp)⟩
 | 12,ρ,ρ',B,w,w',hf,hρ,h=>by have e48:=hρ 48 (Or.inl rfl);simp only[Ph]at h ⊢;rw[e48];obtain⟨b,h1,h2,h3⟩:=h;exact⟨b,h1,h2,h3.keep hf (by simp)⟩
 | 13,ρ,ρ',B,w,w',hf,hρ,h=>by have e49:=hρ 49 (Or.inl rfl);simp only[Ph]at h ⊢;rw[e49];obtain⟨b,h1,h2,h3⟩:=h;exact⟨b,h1,h2,h3.keep hf (by simp)⟩
 | 14,ρ,ρ',B,w,w',hf,hρ,h=>by have e37:=hρ 37 (Or.inr ⟨1,by simp[dep,ops7,n14,Region.binds],by rfl⟩);have e38:=hρ 38 (Or.inr ⟨2,by simp[dep,ops7,n14,Region.binds],by rfl⟩);have e39:=hρ 39 (Or.inr ⟨3,by simp[dep,ops7,n14,Region.binds],by rfl⟩);have e41:=hρ 41 (Or.inr ⟨5,by simp[dep,ops7,n14,Region.binds],by rfl⟩);have e44:=hρ 44 (Or.inr ⟨8,by simp[dep,ops7,n14,Region.binds],by rfl⟩);have e47:=hρ 47 (Or.inr ⟨11,by simp[dep,ops7,n14,Region.binds],by rfl⟩);have e48:=hρ 48 (Or.inr ⟨12,by simp[dep,ops7,n14,Region.binds],by rfl⟩);have e49:=hρ 49 (Or.inr ⟨13,by simp[dep,ops7,n14,Region.binds],by rfl⟩);have e50:=hρ 50 (Or.inl rfl);simp only[Ph]at h ⊢;rw[e37,e38,e39,e41,e44,e47,e48,e49,e50];exact h
 | 15,ρ,ρ',B,w,w',hf,hρ,h=>by have e50:=hρ 50 (Or.inr ⟨14,by simp[dep,ops7,n15,Region.binds],by rfl⟩);have e51:=hρ 51 (Or.inl rfl);simp only[Ph]at h ⊢;rw[e50,e51];obtain⟨b,cs,h1,h2,h3,h4⟩:=h;exact⟨b,cs,h1,h2,h3,hf.keep h4 (by simp)⟩
 | 16,ρ,ρ',B,w,w',hf,hρ,h=>by have e6:=hρ 6 (Or.inl rfl);have e51:=hρ 51 (Or.inr ⟨15,by simp[dep,ops7,n16,Region.binds],by rfl⟩);simp only[Ph]at h ⊢;rw[e6,e51];exact h
 | 17,ρ,ρ',B,w,w',hf,hρ,h=>by have e7:=hρ 7 (Or.inl rfl);simp only[Ph]at h ⊢;rw[e7];exact h
 | n+18,ρ,ρ',B,w,w',hf,hρ,h=>trivial
section
variable (ρ:Operand->Value) (w:World) {c:Cf} {lo:Option Addr} {M mc g b3 b5:Nat} {m:Int}
theorem rn0 (h:ρ (.tmp 3)= .pointer (some ⟨b3,0,none⟩)) (c0:w.cell? ⟨b3,0,none⟩=some (.int .i64 c.l)) (c1:w.cell? ⟨b3,1,none⟩=some (.int .i64 c.s)) (c2:w.cell? ⟨b3,2,none⟩=some (.int .i64 c.w)) (c3:w.cell? ⟨b3,3,none⟩=some (.int .i64 c.q)):(execOp ρ n0).run Tryz.prog w= .ok (.value (.agg #[.int .i64 c.l,.int .i64 c.s,.int .i64 c.w,.int .i64 c.q])) w:=by
 unfold n0
 go_simp
theorem rn1:(execOp ρ n1).run Tryz.prog w= .ok (.value (ρ (.tmp 1))) w:=by
 unfold n1
 go_simp
theorem rn2:(execOp ρ n2).run Tryz.prog w= .ok (.value (ρ (.tmp 10))) w:=by
 unfold n2
 go_simp
theorem rn4 (h:ρ (.tmp 5)= .pointer (some ⟨b5,0,none⟩)):(execOp ρ n4).run Tryz.prog w= .ok (.value (.pointer (some ⟨b5,0,none⟩))) w:=by
 unfold n4
 go_simp
theorem rn5 (h:ρ (.tmp 40)= .pointer (some ⟨b5,0,none⟩)) (c0:w.cell? ⟨b5,0,none⟩=some (.int .i64 m)):(execOp ρ n5).run Tryz.prog w= .ok (.value (.int .i64 m)) w:=by
 unfold n5
 go_simp
theorem rn6 (h:ρ (.tmp 3)= .pointer (some ⟨b3,0,none⟩)):(execOp ρ n6).run Tryz.prog w= .ok (.value (.pointer (some ⟨b3,0,none⟩))) w:=by
 unfold n6
 go_simp
theorem rn7 (h:ρ (.tmp 42)= .pointer (some ⟨b3,0,none⟩)) (c0:w.cell? ⟨b3,0,none⟩=some (.int .i64 c.l)):(execOp ρ n7).run Tryz.prog w= .ok (.value (.int .i64 c.l)) w:=by
 unfold n7
 go_simp
theorem rn9 (h:ρ (.tmp 3)= .pointer (some ⟨b3,0,none⟩)):(execOp ρ n9).run Tryz.prog w= .ok (.value (.pointer (some ⟨b3,1,none⟩))) w:=by
 unfold n9
 go_simp
theorem rn10 (h:ρ (.tmp 45)= .pointer (some ⟨b3,1,none⟩)) (c1:w.cell? ⟨b3,1,none⟩=some (.int .i64 c.s)):(execOp ρ n10).run Tryz.prog w= .ok (.value (.int .i64 c.s)) w:=by
 unfold n10
 go_simp
theorem rn3 (h:ρ (.func 76)= .func (.func 76) #[] #[]):(execOp ρ n3).run Tryz.prog w= .ok (.enter 76 #[]) w:=by
 unfold n3
 go_simp
theorem Tryz.infoLane:(Tryz.prog.info? 237).map (fun i=>(i.zero,i.size,i.bytes))=some (some (.agg #[.int .i64 0,.slice none 0 0]),2,32):=by kernel_rfl
theorem Tryz.infoIs:(Tryz.prog.info? 25).map (fun i=>(i.zero,i.size,i.bytes))=some (some (.slice none 0 0),1,24):=by kernel_rfl
theorem mkLn (w:World) (l:Int) (h0:0<=l) (h1:l<=16):(Instr.makeSlice 109 (.int .i64 l) (.int .i64 l)).run Tryz.prog w= .ok (.slice (some ⟨w.heap.size,0,none⟩) l.toNat l.toNat) (w.alloc (.cells (zLn (l.toNat*2)) 237)):=by
 have hi:=Tryz.infoLane
 cases hI:Tryz.prog.info? 237 with
 | none=>rw[hI]at hi;simp at hi
 | some i =>
  rw[hI]at hi
  simp only[Option.map_some,Option.some.injEq,Prod.mk.injEq]at hi
  have:=run_make (P:=Tryz.prog) w 109 237 i _ (by kernel_rfl) hI hi.1 .i64 .i64 l l h0 (Int.le_refl _) (by rw[hi.2.2];omega) (by omega)
  rw[hi.2.1]at this
  exact this
theorem mkQu (w:World) (l:Int) (h0:0<=l) (h1:l<=16):(Instr.makeSlice 110 (.int .i64 l) (.int .i64 l)).run Tryz.prog w= .ok (.slice (some ⟨w.heap.size,0,none⟩) l.toNat l.toNat) (w.alloc (.cells (zQu (l.toNat*1)) 25)):=by
 have hi:=Tryz.infoIs
 cases hI:Tryz.prog.info? 25 with
 | none=>rw[hI]at hi;simp at hi
 | some i =>
  rw[hI]at hi
  simp only[Option.map_some,Option.some.injEq,Prod.mk.injEq]at hi
  have:=run_make (P:=Tryz.prog) w 110 25 i _ (by kernel_rfl) hI hi.1 .i64 .i64 l l h0 (Int.le_refl _) (by rw[hi.2.2];omega) (by omega)
  rw[hi.2.1]at this
  exact this
theorem rn8 (h:ρ (.tmp 43)= .int .i64 c.l) (h0:0<=c.l) (h1:c.l<=16):(execOp ρ n8).run Tryz.prog w= .ok (.value (.slice (some ⟨w.heap.size,0,none⟩) c.l.toNat c.l.toNat)) (w.alloc (.cells (zLn (c.l.toNat*2)) 237)):=by
 have hm:=mkLn w c.l h0 h1
 unfold n8
 go_simp
theorem rn11 (h:ρ (.tmp 46)= .int .i64 c.s) (h0:0<=c.s) (h1:c.s<=16):(execOp ρ n11).run Tryz.prog w= .ok (.value (.slice (some ⟨w.heap.size,0,none⟩) c.s.toNat c.s.toNat)) (w.alloc (.cells (zQu (c.s.toNat*1)) 25)):=by
 have hm:=mkQu w c.s h0 h1
 unfold n11
 go_simp
theorem rn12:(execOp ρ n12).run Tryz.prog w= .ok (.value (.map (some w.heap.size))) (w.alloc (.map #[] 0)):=by
 have hm:= @run_makeMap Tryz.prog
 unfold n12
 go_simp
theorem rn13:(execOp ρ n13).run Tryz.prog w= .ok (.value (.map (some w.heap.size))) (w.alloc (.map #[] 0)):=by
 have hm:= @run_makeMap Tryz.prog
 unfold n13
 go_simp
theorem rn14 {tb lb qq ob cb a1 a2:Nat} (h36:ρ (.tmp 36)= .agg #[.int .i64 c.l,.int .i64 c.s,.int .i64 c.w,.int .i64 c.q]) (h37:ρ (.tmp 37)= .slice lo M mc) (h38:ρ (.tmp 38)= .pointer (some ⟨g,0,none⟩)) (h39:ρ (.tmp 39)= .pointer (some ⟨tb,0,none⟩)) (h41:ρ (.tmp 41)= .int .i64 m) (h44:ρ (.tmp 44)= .slice (some ⟨lb,0,none⟩) a1 a1) (h47:ρ (.tmp 47)= .slice (some ⟨qq,0,none⟩) a2 a2) (h48:ρ (.tmp 48)= .map (some ob)) (h49:ρ (.tmp 49)= .map (some cb)) :
  (execOp ρ n14).run Tryz.prog w= .ok (.value (.agg #[.int .i64 c.l,.int .i64 c.s,.int .i64 c.w,.int .i64 c.q,.slice lo M mc,.pointer (some ⟨g,0,none⟩),.pointer (some ⟨tb,0,none⟩),.int .i64 m,.bool false,.slice none 0 0,.slice none 0 0,.slice (some ⟨lb,0,none⟩) a1 a1,.slice (some ⟨qq,0,none⟩) a2 a2,.map (some ob),.map (some cb)])) w:=by
 unfold n14
 go_simp
theorem rn15 (cells:Array Value) (h:ρ (.tmp 50)= .agg cells):(execOp ρ n15).run Tryz.prog w= .ok (.value (.pointer (some ⟨w.heap.size,0,none⟩))) (w.alloc (.cells cells 114)):=by
 unfold n15
 go_simp
theorem rn16:(execOp ρ n16).run Tryz.prog w= .ok (.value (ρ (.tmp 51))) w:=by
 unfold n16
 go_simp
theorem rn17 (h:ρ (.const (.bool true))= .bool true):(execOp ρ n17).run Tryz.prog w= .ok (.value (.bool true)) w:=by
 unfold n17
 go_simp
end
theorem zas {P:Program} {o:Oper} {a:Act} {w w':World} {v:Value} {K:Act->World->Prop} {Q:Exit->Act->World->Prop} (hr:(execOp a.eval o).run P w= .ok (.value v) w') (h:K (a.put o.dst v) w'):o.wp P a w K Q:=by
 unfold Oper.wp
 rw[hr]
 exact h
theorem zao {a:Act} {d:Nat} {v:Value} (h:d<a.tmps.size):env (a.put (some d) v) d=v:=Act.eval_put_same a d v h
theorem zbe {a:Act} {d j:Nat} {v:Value} (h:d≠j):env (a.put (some d) v) j=env a j:=Act.eval_put_ne a d j v h
set_option maxHeartbeats 2000000 in
set_option maxRecDepth 100000 in
theorem hs7 {Q:Exit->Act->World->Prop} {a0:Act} {w0:World} {c:Cf} {lo:Option Addr} {M mc g b3 b5:Nat} {m:Int} (hc:c.may) (hz:a0.tmps.size=52) (t1:env a0 1= .slice lo M mc) (t3:env a0 3= .pointer (some ⟨b3,0,none⟩)) (t5:env a0 5= .pointer (some ⟨b5,0,none⟩)) (t10:env a0 10= .pointer (some ⟨g,0,none⟩))
  (hcf:CfM w0 b3 c.l c.s c.w c.q) (hm: ∀W,Fr [] w0 W->W.cell? ⟨b5,0,none⟩=some (.int .i64 m)):Mkg Tryz.prog ops7 Q a0 w0 (Ph c lo M mc g m b3 b5):=by
 intro i o ho a w hza hf hsame hdep
 have hno: ∀t,t∉dl7->env a t=env a0 t:=fun t ht=>hsame t (fun j hj=>by rw[dst7]at hj;exact ht (List.mem_of_getElem? hj))
 have s1:env a 1= .slice lo M mc:=(hno 1 (by decide)).trans t1
 have s3:env a 3= .pointer (some ⟨b3,0,none⟩):=(hno 3 (by decide)).trans t3
 have s5:env a 5= .pointer (some ⟨b5,0,none⟩):=(hno 5 (by decide)).trans t5
 have s10:env a 10= .pointer (some ⟨g,0,none⟩):=(hno 10 (by decide)).trans t10
 have hsz: ∀d,d<52->d<a.tmps.size:=fun d hd=>by rw[hza,hz];exact hd
 obtain⟨_,k0,k1,k2,k3⟩:=hcf.keep hf
 have hl:=hc.1
 have hs:=hc.2.1
 rcases o7 i o ho with ⟨rfl,rfl⟩|⟨rfl,rfl⟩|⟨rfl,rfl⟩|⟨rfl,rfl⟩|⟨rfl,rfl⟩|⟨rfl,rfl⟩|⟨rfl,rfl⟩|⟨rfl,rfl⟩|⟨rfl,rfl⟩|⟨rfl,rfl⟩|⟨rfl,rfl⟩|⟨rfl,rfl⟩|⟨rfl,rfl⟩|⟨rfl,rfl⟩|⟨rfl,rfl⟩|⟨rfl,rfl⟩|⟨rfl,rfl⟩|⟨rfl,rfl⟩
 ·exact zas (rn0 _ _ s3 k0 k1 k2 k3) ⟨_,[],rfl,Fr.refl _ _,⟨rfl,zao (hsz 36 (by omega))⟩,by simp⟩
 ·exact zas (rn1 _ _) ⟨_,[],rfl,Fr.refl _ _,⟨rfl,(zao (hsz 37 (by omega))).trans s1⟩,by simp⟩
 ·exact zas (rn2 _ _) ⟨_,[],rfl,Fr.refl _ _,⟨rfl,(zao (hsz 38 (by omega))).trans s10⟩,by simp⟩
 ·unfold Oper.wp
  rw[rn3 _ _ rfl]
  refine Calls.mono (ztb w) ?_
  rintro e w' ⟨tb,B,rfl,hT,hB,hf'⟩
  exact⟨_,B,rfl,hf',⟨tb,zao (hsz 39 (by omega)),hT⟩,fun x hx=>⟨hB x hx,hT.mine x hx⟩⟩
 ·exact zas (rn4 _ _ s5) ⟨_,[],rfl,Fr.refl _ _,⟨rfl,zao (hsz 40 (by omega))⟩,by simp⟩
 ·obtain⟨B,_,h4⟩:=hdep 4 (by simp[dep,ops7,n5,Region.binds])
  exact zas (rn5 _ _ h4 (hm w hf)) ⟨_,[],rfl,Fr.refl _ _,⟨rfl,zao (hsz 41 (by omega))⟩,by simp⟩
 ·exact zas (rn6 _ _ s3) ⟨_,[],rfl,Fr.refl _ _,⟨rfl,zao (hsz 42 (by omega))⟩,by simp⟩
 ·obtain⟨B,_,h4⟩:=hdep 6 (by simp[dep,ops7,n7,Region.binds])
  exact zas (rn7 _ _ h4 k0) ⟨_,[],rfl,Fr.refl _ _,⟨rfl,zao (hsz 43 (by omega))⟩,by simp⟩
 ·obtain⟨B,_,h4⟩:=hdep 7 (by simp[dep,ops7,n8,Region.binds])
  exact zas (rn8 _ _ h4 (by omega) (by omega)) ⟨_,[w.heap.size],rfl,Fr.alloc _ _ _,⟨_,zao (hsz 44 (by omega)),rfl,heap_alloc_new _ _⟩,by simp⟩
 ·exact zas (rn9 _ _ s3) ⟨_,[],rfl,Fr.refl _ _,⟨rfl,zao (hsz 45 (by omega))⟩,by simp⟩
 ·obtain⟨B,_,h4⟩:=hdep 9 (by simp[dep,ops7,n10,Region.binds])
  exact zas (rn10 _ _ h4 k1) ⟨_,[],rfl,Fr.refl _ _,⟨rfl,zao (hsz 46 (by omega))⟩,by simp⟩
 ·obtain⟨B,_,h4⟩:=hdep 10 (by simp[dep,ops7,n11,Region.binds])
  exact zas (rn11 _ _ h4 (by omega) (by omega)) ⟨_,[w.heap.size],rfl,Fr.alloc _ _ _,⟨_,zao (hsz 47 (by omega)),rfl,heap_alloc_new _ _⟩,by simp⟩
 ·exact zas (rn12 _ _) ⟨_,[w.heap.size],rfl,Fr.alloc _ _ _,⟨_,zao (hsz 48 (by omega)),rfl,MapG.made w⟩,by simp⟩
 ·exact zas (rn13 _ _) ⟨_,[w.heap.size],rfl,Fr.alloc _ _ _,⟨_,zao (hsz 49 (by omega)),rfl,MapG.made w⟩,by simp⟩
 ·obtain⟨_,_,h36⟩:=hdep 0 (by simp[dep,ops7,n14,Region.binds])
  obtain⟨_,_,h37⟩:=hdep 1 (by simp[dep,ops7,n14,Region.binds])
  obtain⟨_,_,h38⟩:=hdep 2 (by simp[dep,ops7,n14,Region.binds])
  obtain⟨_,tb,h39,_⟩:=hdep 3 (by simp[dep,ops7,n14,Region.binds])
  obtain⟨_,_,h41⟩:=hdep 5 (by simp[dep,ops7,n14,Region.binds])
  obtain⟨_,lb,h44,_⟩:=hdep 8 (by simp[dep,ops7,n14,Region.binds])
  obtain⟨_,qq,h47,_⟩:=hdep 11 (by simp[dep,ops7,n14,Region.binds])
  obtain⟨_,ob,h48,_⟩:=hdep 12 (by simp[dep,ops7,n14,Region.binds])
  obtain⟨_,cb,h49,_⟩:=hdep 13 (by simp[dep,ops7,n14,Region.binds])
  refine zas (rn14 _ _ h36 h37 h38 h39 h41 h44 h47 h48 h49) ⟨_,[],rfl,Fr.refl _ _,⟨rfl,?_⟩,by simp⟩
  show env (a.put (some 50) _) 50= .agg #[.int .i64 c.l,.int .i64 c.s,.int .i64 c.w,.int .i64 c.q,env (a.put (some 50) _) 37,env (a.put (some 50) _) 38,env (a.put (some 50) _) 39,env (a.put (some 50) _) 41,.bool false,.slice none 0 0,.slice none 0 0,env (a.put (some 50) _) 44,env (a.put (some 50) _) 47,env (a.put (some 50) _) 48,env (a.put (some 50) _) 49]
  rw[zao (hsz 50 (by omega)),zbe (by decide),zbe (by decide),zbe (by decide),zbe (by decide),zbe (by decide),zbe (by decide),zbe (by decide),zbe (by decide),h37,h38,h39,h41,h44,h47,h48,h49]
 ·obtain⟨_,_,h50⟩:=hdep 14 (by simp[dep,ops7,n15,Region.binds])
  refine zas (rn15 _ _ _ h50) ⟨_,[w.heap.size],rfl,Fr.alloc _ _ _,⟨_,_,(zbe (by decide)).trans h50,zao (hsz 51 (by omega)),rfl,heap_alloc_new _ _⟩,by simp⟩
 ·refine zas (rn16 _ _) ⟨_,[],rfl,Fr.refl _ _,⟨rfl,?_⟩,by simp⟩
  exact (zao (hsz 6 (by omega))).trans (zbe (by decide)).symm
 ·exact zas (rn17 _ _ rfl) ⟨_,[],rfl,Fr.refl _ _,⟨rfl,zao (hsz 7 (by omega))⟩,by simp⟩
def sy0 (m:Int) (xs:List Int):Sy:=⟨m,false,m,xs,[],fun _=>False,fun _=>0,fun _=>[],fun _=>0,fun _=>0⟩
theorem zok {T:List Tx} (h:okL 1 T):Lk T:=by
 have hg:=fun (n:Int) (h1:1<=n) (h2:n<=(T.length:Int))=>zhv h (n-1).toNat (by omega)
 refine⟨zfu h,fun n h1 h2=> ?_,fun n h1 h2=> ?_,fun n h1 h2=> ?_⟩
 ·exact (hg n h1 h2).1.2.2.1
 ·have e:=(hg n h1 h2).2
  have e2:((1+(n-1).toNat:Nat):Int)=n:=by omega
  have:=(hg n h1 h2).1
  unfold Tx.ok at this
  rw[e,e2]at this
  exact this
 ·rw[(hg n h1 h2).2]
  omega
theorem zxe {m:Int} {xs:List Int} (h:Gok m xs):m<=grt m xs:=by
 unfold grt
 split
 ·next h0 =>
  have hm:xs.getD (xs.length-1) 0∈xs:=by simp[List.getD,show xs.length-1<xs.length by omega]
  have:=(h.1.bey _ hm).1
  omega
 ·exact Int.le_refl _
theorem zia {c:Cf} {T:List Tx} {m:Int} {xs:List Int} (hc:c.may) (h:Gok m xs) (ht:grt m xs<=(T.length:Int)):Iv c T (sy0 m xs) 0:=by
 have h1:=h.1.low
 have h2:=zxe h
 have hq:=hc.2.2.2.1
 refine⟨h1,by show m<=_;omega,by intro hh;simp[sy0]at hh,by simp[sy0],by simp[sy0],by simp[sy0],fun i=>Or.inl rfl,by simp[sy0],by simp[sy0],fun j hj=> ?_,by simp[sy0],by simp[sy0],by simp[sy0],by simp[sy0]⟩
 simp[sy0]
 omega
theorem zcq (n i:Nat) (h:i<n):(Array.range n)[i]? = some i:=by
 have h2:i<(Array.range n).size:=by rw[Array.size_range];exact h
 rw[Array.getElem?_eq_getElem h2,Array.getElem_range]
theorem zyx (n i:Nat) (h:i<n):(zLn (n*2))[2*i]? = some (.int .i64 0)/\(zLn (n*2))[2*i+1]? = some (.slice none 0 0):=by
 have e1:2*i%2=0:=by omega
 have e2:(2*i+1)%2=1:=by omega
 constructor
 ·simp only[zLn,madeCells,Array.getElem?_map]
  rw[zcq _ _ (by omega)]
  simp[e1]
 ·simp only[zLn,madeCells,Array.getElem?_map]
  rw[zcq _ _ (by omega)]
  simp[e2]
theorem zyy (n i:Nat) (h:i<n):(zQu (n*1))[i]? = some (.slice none 0 0):=by
 simp only[zQu,madeCells,Array.getElem?_map]
 rw[zcq _ _ (by omega)]
 simp[Nat.mod_one]
theorem zxf {c:Cf} {lo:Option Addr} {M mc g b3 b5:Nat} {m:Int} {xs:List Int} {w0 w:World} {ρ:Nat->Value} {B:Nat->List Nat} (hc:c.may) (hG:GG w g m xs) (hg:g<w0.heap.size)
  (hP: ∀i,i<18->Ph c lo M mc g m b3 b5 i ρ (B i) w) (hB: ∀i,i<18-> ∀x∈B i,w0.heap.size<=x/\x<w.heap.size) (hA: ∀i j,i≠j->i<18->j<18-> ∀x∈B i,x∉B j) :
  ∃Z,ρ 6= .pointer (some ⟨Z.sb,0,none⟩)/\ρ 7= .bool true/\SyM w Z c (sy0 m xs) 0/\Z.g=g/\Z.logo=lo/\Z.M=M/\Z.mc=mc/\(∀x∈Z.own,x=g\/w0.heap.size<=x):=by
 obtain⟨_,p37⟩:=hP 1 (by omega)
 obtain⟨_,p38⟩:=hP 2 (by omega)
 obtain⟨tb,p39,hT⟩:=hP 3 (by omega)
 obtain⟨_,p41⟩:=hP 5 (by omega)
 obtain⟨lb,p44,b8,hL⟩:=hP 8 (by omega)
 obtain⟨qq,p47,b11,hQ⟩:=hP 11 (by omega)
 obtain⟨ob,p48,b12,hO⟩:=hP 12 (by omega)
 obtain⟨cb,p49,b13,hC⟩:=hP 13 (by omega)
 obtain⟨_,p50⟩:=hP 14 (by omega)
 obtain⟨sb,cells,q50,p51,b15,hS⟩:=hP 15 (by omega)
 obtain⟨_,p6⟩:=hP 16 (by omega)
 obtain⟨_,p7⟩:=hP 17 (by omega)
 rw[p37,p38,p39,p41,p44,p47,p48,p49]at p50
 rw[p50]at q50
 cases q50
 have mem: ∀i b,B i=[b]->b∈B i:=fun i b h=>by rw[h];simp
 have ne: ∀i j a b,i≠j->i<18->j<18->B i=[a]->B j=[b]->a≠b:=by
  intro i j a b hij hi hj ha hb e
  subst e
  exact hA i j hij hi hj a (mem i a ha) (mem j a hb)
 have neB: ∀i a,i≠3->i<18->B i=[a]->a∉B 3:=fun i a hi hl ha=>hA i 3 hi hl (by omega) a (mem i a ha)
 have lo': ∀i a,i<18->B i=[a]->w0.heap.size<=a:=fun i a hi ha=>(hB i hi a (mem i a ha)).1
 have l8:=lo' 8 lb (by omega) b8
 have l11:=lo' 11 qq (by omega) b11
 have l12:=lo' 12 ob (by omega) b12
 have l13:=lo' 13 cb (by omega) b13
 have l15:=lo' 15 sb (by omega) b15
 have d1:=ne 15 8 sb lb (by omega) (by omega) (by omega) b15 b8
 have d2:=ne 15 11 sb qq (by omega) (by omega) (by omega) b15 b11
 have d3:=ne 15 12 sb ob (by omega) (by omega) (by omega) b15 b12
 have d4:=ne 15 13 sb cb (by omega) (by omega) (by omega) b15 b13
 have d5:=ne 8 11 lb qq (by omega) (by omega) (by omega) b8 b11
 have d6:=ne 8 12 lb ob (by omega) (by omega) (by omega) b8 b12
 have d7:=ne 8 13 lb cb (by omega) (by omega) (by omega) b8 b13
 have d8:=ne 11 12 qq ob (by omega) (by omega) (by omega) b11 b12
 have d9:=ne 11 13 qq cb (by omega) (by omega) (by omega) b11 b13
 have d10:=ne 12 13 ob cb (by omega) (by omega) (by omega) b12 b13
 have hrows:(⟨sb,g,tb,lb,qq,ob,cb,B 3,fun _=>Sq.no,lo,M,mc⟩:Zs).rows=[]:=by
  refine List.eq_nil_iff_forall_not_mem.2 fun b hb=> ?_
  obtain⟨i,_,hi⟩:=Zs.rows_mem hb
  simp[Sq.no,qb]at hi
 refine⟨⟨sb,g,tb,lb,qq,ob,cb,B 3,fun _=>Sq.no,lo,M,mc⟩,by rw[p6,p51],p7,?_,rfl,rfl,rfl,rfl,fun x hx=> ?_⟩
 ·refine⟨hS,⟨_,hL,?_,fun i hi=>zyx _ i hi⟩,⟨_,hQ,?_,fun j hj=>zyy _ j hj⟩,fun i=>QR.nil w,hG,⟨Dt.none,hT,Inv.none,by simp[Dt.none]⟩,⟨_,hO,fun n=>rfl⟩,⟨_,hC,fun n=>rfl⟩,?_,hc⟩
  ·simp[zLn,size_madeCells];omega
  ·simp[zQu,size_madeCells]
  ·refine⟨?_,fun x hx=> ?_,fun i b hb=>by simp[Sq.no,qb]at hb,fun i j b _ hb=>by simp[Sq.no,qb]at hb,fun i _=>rfl⟩
   ·simp only[Zs.six,List.nodup_cons,List.mem_cons,List.not_mem_nil,or_false,not_or,List.nodup_nil,not_false_eq_true,and_true]
    refine⟨⟨by omega,d1,d2,d3,d4⟩,⟨by omega,by omega,by omega,by omega⟩,⟨d5,d6,d7⟩,⟨d8,d9⟩,d10⟩
   ·simp only[Zs.six,List.mem_cons,List.not_mem_nil,or_false]at hx
    rcases hx with rfl|rfl|rfl|rfl|rfl|rfl
    ·exact neB 15 _ (by omega) (by omega) b15
    ·intro hh
     have:=(hB 3 (by omega) _ hh).1
     omega
    ·exact neB 8 _ (by omega) (by omega) b8
    ·exact neB 11 _ (by omega) (by omega) b11
    ·exact neB 12 _ (by omega) (by omega) b12
    ·exact neB 13 _ (by omega) (by omega) b13
 ·rw[Zs.mem_own,hrows]at hx
  simp only[Zs.six,List.mem_cons,List.not_mem_nil,or_false]at hx
  rcases hx with (rfl|rfl|rfl|rfl|rfl|rfl)|hx
  ·exact Or.inr l15
  ·exact Or.inl rfl
  ·exact Or.inr l8
  ·exact Or.inr l11
  ·exact Or.inr l12
  ·exact Or.inr l13
  ·exact Or.inr (hB 3 (by omega) x hx).1
def Beg (ts:List Tm) (m:Int) (xs:List Int):Prop:=okL 1 (txs ts)/\Gok m xs/\grt m xs<=(ts.length:Int)
def NewP (c:Cf) (ts:List Tm) (m:Int) (xs:List Int) (lo:Option Addr) (M mc:Nat) (w:World) (e:Ending) (w':World):Prop :=
 Fr [] w w'/\((Beg ts m xs/\ ∃Z,e= .returned (.tuple #[.pointer (some ⟨Z.sb,0,none⟩),.bool true])/\SyM w' Z c (sy0 m xs) 0/\Cx w w' Z ts)\/(¬Beg ts m xs/\e= .returned (.tuple #[.pointer none,.bool false])))
theorem zef (ts:List Tm):(txs ts).length=ts.length:=by simp[txs]
set_option maxHeartbeats 8000000 in
set_option maxRecDepth 100000 in
theorem zup (c:Cf) (hc:c.may) (lo:Option Addr) (M mc:Nat) (ts:List Tm) (m:Int) (bo:Option Addr) (bn bc:Nat) (xs:List Int) (ho:Option Addr) (hl hcp:Nat) (w:World)
  (hT:TRs w lo ts) (hM:M=ts.length) (hMc:M<=mc) (hX:IRs w bo xs) (hbn:bn=xs.length) (hbc:bn<=bc) :
  Calls Tryz.prog 25 #[.agg #[.int .i64 c.l,.int .i64 c.s,.int .i64 c.w,.int .i64 c.q],.slice lo M mc,.agg #[.int .i64 m,.slice bo bn bc,.slice ho hl hcp]] w (NewP c ts m xs lo M mc w):=by
 obtain⟨ps,cc,hS⟩:=ScTold.ex (txs ts) 0 ⟨#[]⟩ ⟨#[]⟩
 have hcc:cc=0↔okL 1 (txs ts):=by
  rcases hS.1 with ⟨h1,h2⟩|⟨h1,h2,h3⟩|⟨h1,h2,h3⟩
  ·exact⟨fun h=>absurd h h2,fun h=>by have:=h1.ok.2 h;exact this⟩
  ·exact absurd ⟨Int.le_refl _,by omega⟩ h2
  ·exact⟨fun _=>h1,fun _=>h3⟩
 obtain⟨wa,hwa⟩: ∃wa,wa=w.alloc (.cells #[.int .i64 c.l,.int .i64 c.s,.int .i64 c.w,.int .i64 c.q] 23):=⟨_,rfl⟩
 obtain⟨wb,hwb⟩: ∃wb,wb=wa.alloc (.cells #[.int .i64 m,.slice bo bn bc,.slice ho hl hcp] 28):=⟨_,rfl⟩
 have f1:Fr [] w wa:=by rw[hwa];exact Fr.alloc _ _ _
 have f2:Fr [] wa wb:=by rw[hwb];exact Fr.alloc _ _ _
 have s1:wa.heap.size=w.heap.size+1:=by rw[hwa];simp
 have hcf:CfM wb w.heap.size c.l c.s c.w c.q:=by refine CfM.keep ?_ f2;rw[hwa];exact CfM.new _ _ _ _ _ _
 have r5:wb.heap[w.heap.size+1]? = some (.cells #[.int .i64 m,.slice bo bn bc,.slice ho hl hcp] 28 (0,0)):=by rw[hwb,<-s1];exact heap_alloc_new _ _
 have HW:Hid ((w.alloc (.cells #[.int .i64 c.l,.int .i64 c.s,.int .i64 c.w,.int .i64 c.q] 23)).alloc (.cells #[.int .i64 m,.slice bo bn bc,.slice ho hl hcp] 28)=wb):=by show _=_;rw[hwb,hwa]
 have HFb:Hid (Fr [] w wb):=f1.then f2
 have HCf:Hid (CfM wb w.heap.size c.l c.s c.w c.q):=hcf
 have HS:Hid (∀W,Fr [] w W->Calls _ _ _ W _):=fun W hf=>zoj lo M mc 0 ps _ cc ts W (hT.keep hf) hM hMc (by omega) (by omega) hS rfl
 have HG:Hid (∀W,Fr [] w W->Calls _ _ _ W _):=fun W hf=>zth m bo bn bc xs W (hX.keep hf) hbn
 have HR:Hid (∀W,Fr [] w W->Calls _ _ _ W _):=fun W hf=>zrt m bo bn bc xs W (hX.keep hf) hbn hbc ho hl hcp
 have H5:Hid (∀W,Fr [] wb W->W.cell? ⟨w.heap.size+1,0,none⟩=some (.int .i64 m)/\W.cell? ⟨w.heap.size+1,1,none⟩=some (.slice bo bn bc)/\W.cell? ⟨w.heap.size+1,2,none⟩=some (.slice ho hl hcp)):=fun W hf=>by
  have:=hf.keep r5 (by simp)
  exact⟨by rw[cell_of_row _ _ _ _ _ _ this];rfl,by rw[cell_of_row _ _ _ _ _ _ this];rfl,by rw[cell_of_row _ _ _ _ _ _ this];rfl⟩
 have HT:Hid (TRs w lo ts/\M=ts.length):=⟨hT,hM⟩
 have HCC:Hid (cc=0↔okL 1 (txs ts)):=hcc
 have hMf:M<=140737488355328:=by have:=hT.few;omega
 clear hwa hwb f1 f2 s1 hcf r5 hT hM hMc hX hbn hbc hS hcc
 obtain⟨nb,hnb⟩: ∃nb,nb=w.heap.size:=⟨_,rfl⟩
 rw[<-hnb]at H5 HCf
 have HNb:Hid (w.heap.size=nb):=hnb.symm
 clear hnb
 go_enter Tryz.func25,Tryz.ntmps25
 go_upto_region 1 with fail
 rw[HW.out,HNb.out]
 go_wp2_with fail
 refine Calls.mono (HS.out _ HFb.out) ?_
 rintro e w1 ⟨ro,rc,rfl,_,hf1⟩
 have HF1:Hid (Fr [] wb w1):=hf1
 clear hf1 HS HW
 by_cases h0:cc=0
 rotate_left
 ·have HN:Hid (¬Beg ts m xs):=fun h=>h0 (HCC.out.2 h.1)
  have h0':((cc:Int))≠0:=by omega
  have hne:((cc:Int)!=0)=true:=by simpa using h0'
  go_wp2_with fail
  go_ret2
  exact⟨HFb.out.then HF1.out,Or.inr ⟨HN.out,rfl⟩⟩
 have HOk:Hid (okL 1 (txs ts)):=HCC.out.1 h0
 subst h0
 clear HCC
 obtain⟨c0,c1,c2⟩:=H5.out w1 HF1.out
 go_wp2_with fail
 refine Calls.mono (HG.out _ (HFb.out.then HF1.out)) ?_
 rintro e w2 ⟨hf2,hor⟩
 have HF2:Hid (Fr [] wb w2):=HF1.out.then hf2
 have hsz:Hid (w.heap.size<=w1.heap.size):=(HFb.out.then HF1.out).size
 clear hf2 HG HF1 c0 c1 c2
 obtain⟨c0,c1,c2⟩:=H5.out w2 HF2.out
 rcases hor with ⟨hgk,g,gw,rfl,hg1,hgm,hgw⟩|⟨hgk,rfl⟩
 rotate_left
 ·have HN:Hid (¬Beg ts m xs):=fun h=>hgk h.2.1
  clear hgk
  go_wp2_with fail
  go_ret2
  exact⟨HFb.out.then HF2.out,Or.inr ⟨HN.out,rfl⟩⟩
 have HGG:Hid (GG w2 g m xs/\w1.heap.size<=g):=⟨⟨⟨gw,hgm,hgw⟩,hgk⟩,hg1⟩
 clear hgm hgw hg1
 have HGk:Hid (Gok m xs):=hgk
 clear hgk
 go_wp2_with fail
 refine Calls.mono (HR.out _ (HFb.out.then HF2.out)) ?_
 rintro e w3 ⟨rfl,hf3⟩
 have HF3:Hid (Fr [] wb w3):=HF2.out.then hf3
 have HG3:Hid (GG w3 g m xs/\w.heap.size<=g):=⟨HGG.out.1.keep hf3 (by simp),by have:=HGG.out.2;have:=hsz.out;omega⟩
 clear hf3 HF2 HGG HR c0 c1 c2 hsz
 obtain⟨gr,hgr⟩: ∃gr,gr=grt m xs:=⟨_,rfl⟩
 have HGr:Hid (gr=grt m xs):=hgr
 rw[<-hgr]
 clear hgr
 by_cases hle:gr<=(M:Int)
 rotate_left
 ·have HN:Hid (¬Beg ts m xs):=fun h=>by have h2:=h.2.2;rw[<-HGr.out,<-HT.out.2]at h2;exact hle h2
  have hle2:(M:Int)<gr:=by omega
  go_wp2_with fail
  go_ret2
  exact⟨HFb.out.then HF3.out,Or.inr ⟨HN.out,rfl⟩⟩
 have hle2: ¬(M:Int)<gr:=by omega
 have HBg:Hid (Beg ts m xs):=⟨HOk.out,HGk.out,by rw[<-HGr.out,<-HT.out.2];exact hle⟩
 go_upto_region 7 with fail
 refine zee (ops:=ops7) (w0:=w3) (Φ:=Ph c lo M mc g m nb (nb+1)) (by kernel_rfl) hN7 (hg7 rfl) (hPh7 c lo M mc g m nb (nb+1)) (hs7 hc rfl rfl rfl rfl rfl (HCf.out.keep HF3.out) (fun W hf=>(H5.out W (HF3.out.then hf)).1)) hlex7 ?_
 intro a w4 B hf4 hsz hdf hsame hP hB hA
 obtain⟨Z,p6,p7,hS,hZg,hZl,hZM,hZc,hown⟩:=zxf hc (HG3.out.1.keep hf4 (by simp)) HG3.out.1.lt (fun i hi=>hP i hi) (fun i hi=>hB i hi) (fun i j hij hi hj=>hA i j hij hi hj)
 have HE:Hid (NewP c ts m xs lo M mc w (.returned (.tuple #[.pointer (some ⟨Z.sb,0,none⟩),.bool true])) w4):=by
  refine⟨(HFb.out.then HF3.out).then hf4,Or.inl ⟨HBg.out,Z,rfl,hS,⟨(HFb.out.then HF3.out).then hf4,fun x hx=> ?_,by rw[hZl];exact HT.out.1,by rw[hZM];exact HT.out.2⟩⟩⟩
  rcases hown x hx with rfl|h1
  ·exact HG3.out.2
  ·exact Nat.le_trans (HFb.out.then HF3.out).size h1
 clear hS hown hP hB hA hsame
 rename_i K hK
 show K a w4
 refine hK a w4 ?_
 go_wp2_with fail
 refine bodyPost_ret (results_tmp2 (t:=6) (u:=7) rfl _ _ _) hdf ?_
 have q6:a.tmps.getD 6 undef= .pointer (some ⟨Z.sb,0,none⟩):=p6
 have q7:a.tmps.getD 7 undef= .bool true:=p7
 rw[q6,q7]
 exact HE.out
open Classical in
noncomputable def tkN (c:Cf) (ts:List Tm) (m:Int) (xs:List Int) (es:List Ev):Nat:=if c.may/\Beg ts m xs then (goes c (txs ts) (sy0 m xs) es).1 else 0
open Classical in
noncomputable def tkC (c:Cf) (ts:List Tm) (m:Int) (xs:List Int) (es:List Ev):Int:=if ¬c.may then 7 else if ¬Beg ts m xs then 1 else folC c (txs ts) (sy0 m xs) es
set_option maxHeartbeats 8000000 in
set_option maxRecDepth 100000 in
theorem zkk (c:Cf) (lo:Option Addr) (M mc:Nat) (ts:List Tm) (m:Int) (bo:Option Addr) (bn bc:Nat) (xs:List Int) (ho:Option Addr) (hl hcp:Nat) (eo:Option Addr) (en ec:Nat) (es:List Ev) (w:World)
  (hN:Nms w) (hT:TRs w lo ts) (hM:M=ts.length) (hMc:M<=mc) (hX:IRs w bo xs) (hbn:bn=xs.length) (hbc:bn<=bc) (hE:ERs w eo es) (hen:en=es.length) (hec:en<=ec) (hk:es.length<=4194304) :
  Calls Tryz.prog 10 #[.agg #[.int .i64 c.l,.int .i64 c.s,.int .i64 c.w,.int .i64 c.q],.slice lo M mc,.agg #[.int .i64 m,.slice bo bn bc,.slice ho hl hcp],.slice eo en ec] w fun e w'=>e= .returned (.tuple #[.int .i64 ((tkN c ts m xs es:Nat):Int),.int .i64 (tkC c ts m xs es)])/\Fr [] w w':=by
 obtain⟨wa,hwa⟩: ∃wa,wa=w.alloc (.cells #[.int .i64 c.l,.int .i64 c.s,.int .i64 c.w,.int .i64 c.q] 23):=⟨_,rfl⟩
 obtain⟨wb,hwb⟩: ∃wb,wb=wa.alloc (.cells #[.int .i64 m,.slice bo bn bc,.slice ho hl hcp] 28):=⟨_,rfl⟩
 have f1:Fr [] w wa:=by rw[hwa];exact Fr.alloc _ _ _
 have f2:Fr [] wa wb:=by rw[hwb];exact Fr.alloc _ _ _
 have s1:wa.heap.size=w.heap.size+1:=by rw[hwa];simp
 have hcf:CfM wb w.heap.size c.l c.s c.w c.q:=by refine CfM.keep ?_ f2;rw[hwa];exact CfM.new _ _ _ _ _ _
 have r5:wb.heap[w.heap.size+1]? = some (.cells #[.int .i64 m,.slice bo bn bc,.slice ho hl hcp] 28 (0,0)):=by rw[hwb,<-s1];exact heap_alloc_new _ _
 have HW:Hid ((w.alloc (.cells #[.int .i64 c.l,.int .i64 c.s,.int .i64 c.w,.int .i64 c.q] 23)).alloc (.cells #[.int .i64 m,.slice bo bn bc,.slice ho hl hcp] 28)=wb):=by show _=_;rw[hwb,hwa]
 have HFb:Hid (Fr [] w wb):=f1.then f2
 have HCf:Hid (∀W,Fr [] wb W->CfM W w.heap.size c.l c.s c.w c.q):=fun W hf=>hcf.keep hf
 have HC:Hid (∀W,Calls _ _ _ W _):=fun W=>zdx c.l c.s c.w c.q W
 have HS:Hid (∀W,c.may->Fr [] w W->Calls _ _ _ W _):=fun W hc hf=>zup c hc lo M mc ts m bo bn bc xs ho hl hcp W (hT.keep hf) hM hMc (hX.keep hf) hbn hbc
 have HFo:Hid (∀W W' Z,c.may->Beg ts m xs->Fr [] w W->SyM W' Z c (sy0 m xs) 0->Cx W W' Z ts->Calls Tryz.prog 26 #[.pointer (some ⟨Z.sb,0,none⟩),.slice eo en ec] W' fun e w'=>e= .returned (.tuple #[.int .i64 ((goes c (txs ts) (sy0 m xs) es).1:Int),.int .i64 (folC c (txs ts) (sy0 m xs) es)])/\Fr [] W w'):=fun W W' Z hc hb hf hS hx=>by
  rw[hen]
  exact znw ⟨hS,hx,zok hb.1,zia hc hb.2.1 (by rw[zef];exact hb.2.2),by omega⟩ (hN.keep hf (by simp)) (hE.keep hf) (by omega) (by omega)
 have H5:Hid (∀W,Fr [] wb W->W.cell? ⟨w.heap.size+1,0,none⟩=some (.int .i64 m)/\W.cell? ⟨w.heap.size+1,1,none⟩=some (.slice bo bn bc)/\W.cell? ⟨w.heap.size+1,2,none⟩=some (.slice ho hl hcp)):=fun W hf=>by
  have:=hf.keep r5 (by simp)
  exact⟨by rw[cell_of_row _ _ _ _ _ _ this];rfl,by rw[cell_of_row _ _ _ _ _ _ this];rfl,by rw[cell_of_row _ _ _ _ _ _ this];rfl⟩
 clear hwa hwb f1 f2 s1 hcf r5 hT hM hMc hX hbn hbc hE hen hec hN
 obtain⟨nb,hnb⟩: ∃nb,nb=w.heap.size:=⟨_,rfl⟩
 rw[<-hnb]at H5 HCf
 have HNb:Hid (w.heap.size=nb):=hnb.symm
 clear hnb
 obtain⟨_,k0,k1,k2,k3⟩:=HCf.out wb (Fr.refl _ _)
 go_enter Tryz.func10,Tryz.ntmps10
 go_upto_region 1 with fail
 rw[HW.out,HNb.out]
 go_wp2_with fail
 refine Calls.mono (HC.out _) ?_
 rintro e w1 ⟨rfl,hf1⟩
 have HF1:Hid (Fr [] wb w1):=hf1
 clear hf1 HC HW k0 k1 k2 k3
 by_cases hc:c.may
 rotate_left
 ·have he:Cf.err ⟨c.l,c.s,c.w,c.q⟩=7:=if_neg hc
  rw[he]
  have HN:Hid (tkN c ts m xs es=0/\tkC c ts m xs es=7):=⟨if_neg (fun h=>hc h.1),if_pos hc⟩
  clear hc he
  go_wp2_with fail
  go_ret2
  exact⟨by rw[HN.out.1,HN.out.2];rfl,HFb.out.then HF1.out⟩
 have he:Cf.err ⟨c.l,c.s,c.w,c.q⟩=0:=if_pos hc
 rw[he]
 clear he
 have HMay:Hid c.may:=hc
 clear hc
 obtain⟨c0,c1,c2⟩:=H5.out w1 HF1.out
 obtain⟨_,k0,k1,k2,k3⟩:=HCf.out w1 HF1.out
 go_wp2_with fail
 refine Calls.mono (HS.out _ HMay.out (HFb.out.then HF1.out)) ?_
 rintro e w2 ⟨hf2,⟨hb,Z,rfl,hS,hx⟩|⟨hb,rfl⟩⟩
 rotate_left
 ·have HN:Hid (tkN c ts m xs es=0/\tkC c ts m xs es=1):=⟨if_neg (fun h=>hb h.2),by unfold tkC;rw[if_neg (fun h=>h HMay.out),if_pos hb]⟩
  have HF2:Hid (Fr [] w w2):=(HFb.out.then HF1.out).then hf2
  clear hb hf2 c0 c1 c2 k0 k1 k2 k3
  go_wp2_with fail
  go_ret2
  exact⟨by rw[HN.out.1,HN.out.2];rfl,HF2.out⟩
 have HN:Hid (tkN c ts m xs es=(goes c (txs ts) (sy0 m xs) es).1/\tkC c ts m xs es=folC c (txs ts) (sy0 m xs) es):=⟨if_pos ⟨HMay.out,hb⟩,by unfold tkC;rw[if_neg (fun h=>h HMay.out),if_neg (fun h=>h hb)]⟩
 have HFl:Hid (Calls _ _ _ _ _):=HFo.out w1 w2 Z HMay.out hb (HFb.out.then HF1.out) hS hx
 clear hb hS hx c0 c1 c2 k0 k1 k2 k3 HFo
 go_wp2_with fail
 refine Calls.mono HFl.out ?_
 rintro e w3 ⟨rfl,hf3⟩
 have HF3:Hid (Fr [] w w3):=(HFb.out.then HF1.out).then hf3
 clear hf3
 go_wp2_with fail
 go_ret2
 exact⟨by rw[HN.out.1,HN.out.2];rfl,HF3.out⟩
def lc:Cf:=⟨1,1,4,1⟩
def lW:List Wt:=[⟨⟨#[97]⟩,⟨#[49]⟩,false⟩]
def lT:List Tx:=[⟨1,lW⟩]
def lE:List Ev:=[⟨0,1,1,0,0,0⟩,⟨0,3,1,0,0,0⟩,⟨1,4,1,0,0,0⟩,⟨1,5,1,0,0,0⟩,⟨2,7,1,0,0,0⟩,⟨1,6,1,0,0,0⟩,⟨3,8,1,0,1,1⟩]
theorem zwe: ∀x∈lW,okW x:=by
 intro x hx
 simp only[lW,List.mem_cons,List.not_mem_nil,or_false]at hx
 subst hx
 exact⟨by decide,by decide,by decide,fun h=>by simp at h⟩
theorem zzx:okL 1 lT:=⟨⟨by decide,by decide,by decide,zwe⟩,rfl,trivial⟩
theorem zjh:lc.may:=by unfold Cf.may lc;decide
theorem zzy:Gok 0 []:=⟨⟨by omega,by omega,List.Pairwise.nil,by simp⟩,by simp⟩
theorem zwf:wsAt lT 1=lW:=rfl
theorem dd1:dd lW=lW:=by
 have hk:Kept lW 0:=by
  intro m h1 h2
  have:lW.length=1:=rfl
  omega
 show ddTo lW 1=lW
 rw[zdh hk]
 rfl
theorem shs1:shs lc lT 1=[0]:=by
 unfold shs
 rw[zwf,dd1]
 simp[lW,zbg,lc,Int.emod_one]
theorem adx1 (en:Int->Prop) (ks:List ByteArray):adx [] en ks=[]:=by
 refine zhh ⟨List.Pairwise.nil,fun m=>⟨fun h=>by simp at h,fun h=> ?_⟩⟩
 obtain⟨⟨⟨p,hp,_⟩,_⟩,_⟩:=h
 simp at hp
noncomputable def k0:Sy:=sy0 0 []
noncomputable def k1:Sy:=(stp lc lT k0 ⟨0,1,1,0,0,0⟩).2
noncomputable def k2:Sy:=(stp lc lT k1 ⟨0,3,1,0,0,0⟩).2
noncomputable def k3:Sy:=(stp lc lT k2 ⟨1,4,1,0,0,0⟩).2
noncomputable def k4:Sy:=(stp lc lT k3 ⟨1,5,1,0,0,0⟩).2
noncomputable def k5:Sy:=(stp lc lT k4 ⟨2,7,1,0,0,0⟩).2
noncomputable def k6:Sy:=(stp lc lT k5 ⟨1,6,1,0,0,0⟩).2
theorem q1:stp lc lT k0 ⟨0,1,1,0,0,0⟩=(⟨1,1,0,0⟩,{ k0 with read:=1,holds:=true }):=by
 simp[stp,dsp,k0,sy0,lT]
theorem zdq:k1={ k0 with read:=1,holds:=true }:=by unfold k1;rw[q1]
theorem q2:stp lc lT k1 ⟨0,3,1,0,0,0⟩=(⟨3,1,0,0⟩,{ k1 with holds:=false,L:=[(1,zah lW)],R:=upd k1.R 0 [1] }):=by
 rw[zdq]
 simp[stp,dsp,k0,sy0,zwf,adx1,lc]
theorem zfy:k2={ k1 with holds:=false,L:=[(1,zah lW)],R:=upd k1.R 0 [1] }:=by unfold k2;rw[q2]
theorem q3:stp lc lT k2 ⟨1,4,1,0,0,0⟩=(⟨4,1,0,0⟩,{ k2 with num:=upd k2.num 0 1,R:=upd (upd k2.R 0 []) 2 [0] }):=by
 rw[zfy,zdq]
 simp only[stp,lan,k0,sy0,lc,zad]
 simp
 rw[show shs ⟨1,1,4,1⟩ lT 1=[0] from shs1]
theorem zfz:k3={ k2 with num:=upd k2.num 0 1,R:=upd (upd k2.R 0 []) 2 [0] }:=by unfold k3;rw[q3]
theorem k3R (j:Nat) (h0:j≠0) (h2:j≠2):k3.R j=[]:=by rw[zfz,zfy,zdq];simp[upd,h0,h2,k0,sy0]
theorem k3R2:k3.R 2=[0]:=by rw[zfz];simp[upd]
theorem k3n:k3.num 0=1:=by rw[zfz];simp[upd]
theorem k3F (n:Int):k3.F n=0:=by rw[zfz,zfy,zdq];rfl
theorem k3m:k3.ma=0:=by rw[zfz,zfy,zdq];rfl
theorem k3x:k3.bx=[]:=by rw[zfz,zfy,zdq];rfl
theorem q4:stp lc lT k3 ⟨1,5,1,0,0,0⟩=(⟨5,1,0,0⟩,{ asks k3 0 1 with R:=upd (asks k3 0 1).R 2 [] }):=by
 have h18:=k3R 18 (by decide) (by decide)
 simp[stp,lan,lc,k3n,k3R2,h18]
theorem zga:k4={ asks k3 0 1 with R:=upd (asks k3 0 1).R 2 [] }:=by unfold k4;rw[q4]
theorem k4q:k4.R 18=[1]:=by rw[zga];simp[asks,upd,k3R 18 (by decide) (by decide)]
theorem k4n:k4.num 0=1:=by rw[zga];exact k3n
theorem k4R2:k4.R 2=[]:=by rw[zga];simp[upd]
theorem k4R1:k4.R 1=[]:=by rw[zga];simp[asks,upd,k3R 1 (by decide) (by decide)]
theorem k4F:k4.F 1=1:=by rw[zga];simp[asks,updI,k3F]
theorem k4m:k4.ma=0/\k4.bx=[]:=by rw[zga];exact⟨k3m,k3x⟩
theorem q5:stp lc lT k4 ⟨2,7,1,0,0,0⟩=(⟨7,1,0,0⟩,{ k4 with R:=upd k4.R 18 [],F:=updI k4.F 1 (k4.F 1-1) }):=by
 simp[stp,own,lc,k4q]
theorem zho:k5={ k4 with R:=upd k4.R 18 [],F:=updI k4.F 1 (k4.F 1-1) }:=by unfold k5;rw[q5]
theorem k5n:k5.num 0=1:=by rw[zho];exact k4n
theorem k5R2:k5.R 2=[]:=by rw[zho];simp[upd,k4R2]
theorem k5R1:k5.R 1=[]:=by rw[zho];simp[upd,k4R1]
theorem k5F:k5.F 1=0:=by rw[zho];simp[updI,k4F]
theorem k5m:k5.ma=0/\k5.bx=[]:=by rw[zho];exact k4m
theorem q6:stp lc lT k5 ⟨1,6,1,0,0,0⟩=(⟨6,1,0,0⟩,{ k5 with num:=upd k5.num 0 0,R:=upd k5.R 1 [1] }):=by
 simp[stp,lan,lc,k5n,k5R2,k5R1,k5F]
theorem zwg:k6={ k5 with num:=upd k5.num 0 0,R:=upd k5.R 1 [1] }:=by unfold k6;rw[q6]
theorem k6R1:k6.R 1=[1]:=by rw[zwg];simp[upd]
theorem k6m:k6.ma=0/\k6.bx=[]:=by rw[zwg];exact k5m
theorem gdx1:gdx 0 [] 1=(1,1,[]):=by simp[gdx,insI,adv]
theorem q7:(stp lc lT k6 ⟨3,8,1,0,1,1⟩).1=⟨8,1,0,1⟩/\(stp lc lT k6 ⟨3,8,1,0,1,1⟩).2.ma=1:=by
 simp[stp,gat,lc,k6R1,k6m.1,k6m.2,gdx1]
theorem zeg {c:Cf} {T:List Tx} {s:Sy} {e:Ev} {a:Te} {s':Sy} (ht:e.t<c.l+c.s+2) (h:stp c T s e=(a,s')) (hk:a.k≠0) (he:(⟨e.t,a.k,a.n,a.s,a.c,s'.ma⟩:Ev)=e):Can c T s e:=by
 unfold Can tolE
 rw[if_pos ht,h]
 exact⟨hk,he⟩
theorem zce {c:Cf} {T:List Tx} {s:Sy} {e:Ev} {r:List Ev} (h:Can c T s e):goes c T s (e::r)=((goes c T (stp c T s e).2 r).1+1,(goes c T (stp c T s e).2 r).2):=by
 simp only[goes,if_pos h]
theorem zxg:(goes lc lT (sy0 0 []) lE).1=7:=by
 have c1:Can lc lT k0 ⟨0,1,1,0,0,0⟩:=zeg (by decide) q1 (by decide) rfl
 have c2:Can lc lT k1 ⟨0,3,1,0,0,0⟩:=zeg (by decide) q2 (by decide) (by rw[zdq];rfl)
 have c3:Can lc lT k2 ⟨1,4,1,0,0,0⟩:=zeg (by decide) q3 (by decide) (by rw[zfy,zdq];rfl)
 have c4:Can lc lT k3 ⟨1,5,1,0,0,0⟩:=zeg (by decide) q4 (by decide) (by simp only[asks];rw[k3m])
 have c5:Can lc lT k4 ⟨2,7,1,0,0,0⟩:=zeg (by decide) q5 (by decide) (by simp only;rw[k4m.1])
 have c6:Can lc lT k5 ⟨1,6,1,0,0,0⟩:=zeg (by decide) q6 (by decide) (by simp only;rw[k5m.1])
 have c7:Can lc lT k6 ⟨3,8,1,0,1,1⟩:=by
  unfold Can tolE
  rw[if_pos (by decide),q7.1,q7.2]
  exact⟨by decide,rfl⟩
 show (goes lc lT k0 lE).1=7
 unfold lE
 rw[zce c1]
 show (goes lc lT k1 _).1+1=7
 rw[zce c2]
 show (goes lc lT k2 _).1+1+1=7
 rw[zce c3]
 show (goes lc lT k3 _).1+1+1+1=7
 rw[zce c4]
 show (goes lc lT k4 _).1+1+1+1+1=7
 rw[zce c5]
 show (goes lc lT k5 _).1+1+1+1+1+1=7
 rw[zce c6]
 show (goes lc lT k6 _).1+1+1+1+1+1+1=7
 rw[zce c7]
 rfl
theorem zyz:(goes lc lT (sy0 0 []) (lE.drop 1)).1=0:=by
 have hn: ¬Can lc lT (sy0 0 []) ⟨0,3,1,0,0,0⟩:=by
  intro h
  have h2:=h.2
  unfold tolE at h2
  rw[if_pos (by decide)]at h2
  simp[stp,dsp,sy0,lT]at h2
 show (goes lc lT (sy0 0 []) (⟨0,3,1,0,0,0⟩::_)).1=0
 unfold goes
 rw[if_neg hn]
def Rise (p N:Int):List Int->Prop
 | []=>True
 | x::r=>p<x/\x<=N/\Rise x N r
theorem zpi (xs:List Int) (i:Nat) (h:i<xs.length):xs.drop i=xs.getD i 0::xs.drop (i+1):=by
 rw[List.drop_eq_getElem_cons h]
 simp[List.getD,h]
def zzl (e:Ending) (P:Prop):Prop:= ∃B:Bool,e= .returned (.bool B)/\(B=true↔P)
set_option maxHeartbeats 8000000 in
set_option maxRecDepth 100000 in
theorem zpj (ao:Option Addr) (L cap:Nat) (m:Int) (bo:Option Addr) (Lb cb:Nat) (bs:List Int) (w:World) (hLf:L<=140737488355328) (hI:IRs w bo bs) (hLb:Lb=bs.length) :
  Calls Tryz.prog 29 #[.slice ao L cap,.int .i64 m,.slice bo Lb cb] w fun e w'=>zzl e (0<=m/\m<=(L:Int)/\Rise (m+1) L bs)/\Fr [] w w':=by
 obtain⟨P,hP⟩: ∃P:Prop,P=(0<=m/\m<=(L:Int)/\Rise (m+1) L bs):=⟨_,rfl⟩
 rw[<-hP]
 have HP:Hid (P=(0<=m/\m<=(L:Int)/\Rise (m+1) L bs)):=hP
 clear hP
 by_cases h1:m<0
 ·have n2:decide (m<0)=true:=by simp[h1]
  have HN:Hid (¬P):=fun h=>by rw[HP.out]at h;have:=h.1;omega
  clear hI hLb HP
  go_enter Tryz.func29,Tryz.ntmps29
  go_wp2_with fail
  go_ret
  exact⟨⟨false,rfl,⟨fun h=>(by cases h),fun h=>absurd h HN.out⟩⟩,Fr.refl _ _⟩
 ·have n2:decide (m<0)=false:=by simp[h1]
  by_cases h2:(L:Int)<m
  ·have n3:decide ((L:Int)<m)=true:=by simp[h2]
   have HN:Hid (¬P):=fun h=>by rw[HP.out]at h;have:=h.2.1;omega
   clear hI hLb HP
   go_enter Tryz.func29,Tryz.ntmps29
   go_wp2_with fail
   go_ret
   exact⟨⟨false,rfl,⟨fun h=>(by cases h),fun h=>absurd h HN.out⟩⟩,Fr.refl _ _⟩
  ·have n3:decide ((L:Int)<m)=false:=by simp[h2]
   have HL:Hid (Lb=bs.length):=hLb
   have HI:Hid (∀W,Fr [] w W->IRs W bo bs):=fun W hf=>hI.keep hf
   have hfew:=hI.few
   rw[<-hLb]at hfew
   have HR0:Hid (P↔Rise (m+1) L (bs.drop 0)):=by
    show _↔_
    rw[HP.out]
    simp only[List.drop_zero]
    exact⟨fun h=>h.2.2,fun h=>⟨by omega,by omega,h⟩⟩
   clear hI hLb HP
   go_enter Tryz.func29,Tryz.ntmps29
   go_wp2_with fail
   try simp only[n2,n3]
   go_loopw [7,8] (fun vv ii wr=> ∃(v:Int) (i:Nat),vv= .int .i64 v/\ii= .int .i64 i/\i<=Lb/\Hid (P↔Rise v L (bs.drop i))/\Fr [] w wr) (fun _ ii _=>Lb-(RowKit.intOf ii).toNat)
   case atStart=>exact⟨m+1,0,rfl,rfl,Nat.zero_le _,HR0,Fr.refl _ _⟩
   case round =>
    obtain⟨v,i,rfl,rfl,hiL,HR,hF⟩:=hrel
    by_cases hi:i<Lb
    ·obtain⟨bb,off,rfl,_,hc⟩:=(HI.out _ hF).lies (by rw[<-HL.out];omega)
     have d0:=hc i (by rw[<-HL.out];exact hi)
     have HD:Hid (bs.drop i=bs.getD i 0::bs.drop (i+1)):=zpi bs i (by rw[<-HL.out];exact hi)
     generalize bs.getD i 0=x at d0 HD
     have HR2:Hid (P↔v<x/\x<=(L:Int)/\Rise x L (bs.drop (i+1))):=by
      show _↔_
      rw[HR.out,HD.out]
      exact Iff.rfl
     clear hc HR HD HR0
     by_cases q1:x<=v
     ·have e1:decide (x<=v)=true:=by simp[q1]
      have HN:Hid (¬P):=fun h=>by have:=(HR2.out.1 h).1;omega
      clear HR2
      go_wp2_with fail
      go_ret
      exact⟨⟨false,rfl,⟨fun h=>(by cases h),fun h=>absurd h HN.out⟩⟩,hF⟩
     ·have e1:decide (x<=v)=false:=by simp[q1]
      by_cases q2:(L:Int)<x
      ·have e2:decide ((L:Int)<x)=true:=by simp[q2]
       have HN:Hid (¬P):=fun h=>by have:=(HR2.out.1 h).2.1;omega
       clear HR2
       go_wp2_with fail
       go_ret
       exact⟨⟨false,rfl,⟨fun h=>(by cases h),fun h=>absurd h HN.out⟩⟩,hF⟩
      ·have e2:decide ((L:Int)<x)=false:=by simp[q2]
       have HR3:Hid (P↔Rise x L (bs.drop (i+1))):=by
        show _↔_
        rw[HR2.out]
        exact⟨fun h=>h.2.2,fun h=>⟨by omega,by omega,h⟩⟩
       clear HR2
       go_wp2_with fail
       go_roundw
       case rel=>exact⟨x,i+1,rfl,by simp,by omega,HR3,hF⟩
       case measure=>simp[RowKit.intOf];omega
    ·obtain rfl:i=Lb:=by omega
     have HY:Hid P:=by
      rw[HL.out,List.drop_length]at HR
      exact HR.out.2 trivial
     clear HR HR0 hi hiL
     go_wp2_with fail
     go_ret
     exact⟨⟨true,rfl,⟨fun _=>HY.out,fun _=>rfl⟩⟩,hF⟩
theorem zgy (N:Int): ∀(bs:List Int) (p:Int),Rise p N bs↔(Ris bs/\ ∀x∈bs,p<x/\x<=N)
 | [],p=>⟨fun _=>⟨List.Pairwise.nil,fun x hx=>by cases hx⟩,fun _=>trivial⟩
 | b::r,p=>by
  constructor
  ·intro h
   obtain⟨h1,h2⟩:=(zgy N r b).1 h.2.2
   refine⟨List.pairwise_cons.2 ⟨fun x hx=>(h2 x hx).1,h1⟩,fun x hx=> ?_⟩
   rcases List.mem_cons.1 hx with rfl|hx
   ·exact⟨h.1,h.2.1⟩
   ·have:=h2 x hx
    have:=h.1
    omega
  ·rintro⟨h1,h2⟩
   obtain⟨g1,g2⟩:=List.pairwise_cons.1 h1
   have hb:=h2 b (by simp)
   exact⟨hb.1,hb.2,(zgy N r b).2 ⟨g2,fun x hx=>⟨g1 x hx,(h2 x (List.mem_cons_of_mem _ hx)).2⟩⟩⟩
theorem zmk {xs:List Int} (h:Ris xs) (h0:0<xs.length): ∀x∈xs,x<=xs.getD (xs.length-1) 0:=by
 intro x hx
 obtain⟨i,hi,rfl⟩:=List.getElem_of_mem hx
 have hl:xs.length-1<xs.length:=by omega
 have e:xs.getD (xs.length-1) 0=xs[xs.length-1]:=by simp[List.getD,hl]
 rw[e]
 by_cases c:i=xs.length-1
 ·subst c;exact Int.le_refl _
 ·have:=List.pairwise_iff_getElem.1 h i (xs.length-1) hi hl (by omega)
  omega
theorem zsq (m:Int) (bs:List Int) (L:Nat) (hL:L<=65536):(0<=m/\m<=(L:Int)/\Rise (m+1) L bs)↔(Gok m bs/\grt m bs<=(L:Int)):=by
 rw[zgy]
 constructor
 ·rintro⟨h1,h2,h3,h4⟩
  refine⟨⟨⟨h1,by omega,h3,fun x hx=>by have:=h4 x hx;omega⟩,fun hx=>by have:=h4 _ hx;omega⟩,?_⟩
  unfold grt
  by_cases h0:0<bs.length
  ·rw[if_pos h0]
   have:bs.getD (bs.length-1) 0∈bs:=by
    have hl:bs.length-1<bs.length:=by omega
    simp[List.getD,hl]
   exact (h4 _ this).2
  ·rw[if_neg h0];exact h2
 ·rintro⟨⟨hg,hn⟩,hgr⟩
  unfold grt at hgr
  refine⟨hg.low,?_,hg.ris,fun x hx=> ?_⟩
  ·by_cases h0:0<bs.length
   ·rw[if_pos h0]at hgr
    have hb:bs.getD (bs.length-1) 0∈bs:=by
     have hl:bs.length-1<bs.length:=by omega
     simp[List.getD,hl]
    have:=hg.bey _ hb
    omega
   ·rw[if_neg h0]at hgr;exact hgr
  ·have h0:0<bs.length:=List.length_pos_of_mem hx
   rw[if_pos h0]at hgr
   have:=zmk hg.ris h0 x hx
   have hb:=hg.bey x hx
   have:x≠m+1:=fun e=>hn (e▸hx)
   omega
end Go.Proofs.YtaaghcimfcjehaaGreatDoor
