/- Contracts and plain lemmas of this claim. -/
import Derived.Test.YtaaghcimfcjehaaGreatDoorGp24
import Derived.Test.YtaaghcimfcjehaaGreatDoorGp26
import Derived.Test.YtaaghcimfcjehaaGreatDoorGp29
set_option linter.unusedSimpArgs false
set_option linter.unusedVariables false
namespace Go.Proofs.YtaaghcimfcjehaaGreatDoor.Ck
open Go.ChangeShapes Go.WideShapes Go.ChangeAt Go.RowKit Go.Lib Go.Maps
def n0:Oper:={ dst:=some 37,op:=Op.load 23 (Operand.tmp 4),type:=23,pos:= "ref.go:89",after:= #[],guard:=none }
def n1:Oper:={ dst:=some 38,op:=Op.move (Operand.tmp 1),type:=24,pos:= "ref.go:89",after:= #[],guard:=none }
def n2:Oper:={ dst:=some 39,op:=Op.fieldAddr 28 (Operand.tmp 6) 0,type:=0,pos:= "ref.go:89",after:= #[],guard:=none }
def n3:Oper:={ dst:=some 40,op:=Op.load 3 (Operand.tmp 39),type:=3,pos:= "ref.go:89",after:= #[{ on:=2,ground:=Ground.data }],guard:=none }
def n4:Oper:={ dst:=some 41,op:=Op.fieldAddr 28 (Operand.tmp 6) 1,type:=0,pos:= "ref.go:89",after:= #[],guard:=none }
def n5:Oper:={ dst:=some 42,op:=Op.load 25 (Operand.tmp 41),type:=25,pos:= "ref.go:89",after:= #[{ on:=4,ground:=Ground.data }],guard:=none }
def n6:Oper:={ dst:=some 43,op:=Op.call { callee:=Callee.value (Operand.func 31),args:= #[],argTypes:= #[] },type:=81,pos:= "ref.go:89",after:= #[],guard:=none }
def n7:Oper:={ dst:=some 44,op:=Op.move (Operand.tmp 10),type:=77,pos:= "ref.go:89",after:= #[],guard:=none }
def n8:Oper:={ dst:=some 45,op:=Op.fieldAddr 23 (Operand.tmp 4) 0,type:=0,pos:= "ref.go:89",after:= #[],guard:=none }
def n9:Oper:={ dst:=some 46,op:=Op.load 3 (Operand.tmp 45),type:=3,pos:= "ref.go:89",after:= #[{ on:=8,ground:=Ground.data }],guard:=none }
def n10:Oper:={ dst:=some 47,op:=Op.makeSlice 83 (Operand.tmp 46) (Operand.tmp 46),type:=83,pos:= "ref.go:89",after:= #[{ on:=9,ground:=Ground.data },{ on:=9,ground:=Ground.data }],guard:=none }
def n11:Oper:={ dst:=some 48,op:=Op.fieldAddr 23 (Operand.tmp 4) 1,type:=0,pos:= "ref.go:89",after:= #[],guard:=none }
def n12:Oper:={ dst:=some 49,op:=Op.load 3 (Operand.tmp 48),type:=3,pos:= "ref.go:89",after:= #[{ on:=11,ground:=Ground.data }],guard:=none }
def n13:Oper:={ dst:=some 50,op:=Op.makeSlice 84 (Operand.tmp 49) (Operand.tmp 49),type:=84,pos:= "ref.go:89",after:= #[{ on:=12,ground:=Ground.data },{ on:=12,ground:=Ground.data }],guard:=none }
def n14:Oper:={ dst:=some 51,op:=Op.build 87 #[(0,Operand.tmp 37),(1,Operand.tmp 38),(2,Operand.tmp 40),(4,Operand.tmp 42),(5,Operand.tmp 43),(6,Operand.tmp 44),(9,Operand.tmp 47),(10,Operand.tmp 50)],type:=87,pos:= "ref.go:89",after:= #[{ on:=0,ground:=Ground.data },{ on:=1,ground:=Ground.data },{ on:=3,ground:=Ground.data },{ on:=5,ground:=Ground.data },{ on:=6,ground:=Ground.data },{ on:=7,ground:=Ground.data },{ on:=10,ground:=Ground.data },{ on:=13,ground:=Ground.data }],guard:=none }
def n15:Oper:={ dst:=some 52,op:=Op.box 87 (Operand.tmp 51),type:=80,pos:= "ref.go:89",after:= #[{ on:=14,ground:=Ground.data }],guard:=none }
def n16:Oper:={ dst:=some 12,op:=Op.assign (Operand.tmp 52),type:=80,pos:= "ref.go:89",after:= #[{ on:=15,ground:=Ground.data },{ on:=6,ground:=Ground.chain },{ on:=0,ground:=Ground.phase },{ on:=1,ground:=Ground.phase },{ on:=2,ground:=Ground.phase },{ on:=3,ground:=Ground.phase },{ on:=4,ground:=Ground.phase },{ on:=5,ground:=Ground.phase },{ on:=6,ground:=Ground.phase },{ on:=7,ground:=Ground.phase },{ on:=8,ground:=Ground.phase },{ on:=9,ground:=Ground.phase },{ on:=10,ground:=Ground.phase },{ on:=11,ground:=Ground.phase },{ on:=12,ground:=Ground.phase },{ on:=13,ground:=Ground.phase },{ on:=14,ground:=Ground.phase },{ on:=15,ground:=Ground.phase }],guard:=none }
def ops7:Array Oper:= #[n0,n1,n2,n3,n4,n5,n6,n7,n8,n9,n10,n11,n12,n13,n14,n15,n16]
def dl7:List Nat:=[37,38,39,40,41,42,43,44,45,46,47,48,49,50,51,52,12]
theorem dst7: ∀i,zal ops7 i=dl7[i]?
 | 0=>rfl
 | 1=>rfl
 | 2=>rfl
 | 3=>rfl
 | 4=>rfl
 | 5=>rfl
 | 6=>rfl
 | 7=>rfl
 | 8=>rfl
 | 9=>rfl
 | 10=>rfl
 | 11=>rfl
 | 12=>rfl
 | 13=>rfl
 | 14=>rfl
 | 15=>rfl
 | 16=>rfl
 | n+17=>by simp[zal,ops7,dl7]
theorem o7: ∀(i:Nat) (o:Oper),ops7[i]? = some o->(i=0/\o=n0)\/(i=1/\o=n1)\/(i=2/\o=n2)\/(i=3/\o=n3)\/(i=4/\o=n4)\/(i=5/\o=n5)\/(i=6/\o=n6)\/(i=7/\o=n7)\/(i=8/\o=n8)\/(i=9/\o=n9)\/(i=10/\o=n10)\/(i=11/\o=n11)\/(i=12/\o=n12)\/(i=13/\o=n13)\/(i=14/\o=n14)\/(i=15/\o=n15)\/(i=16/\o=n16)
 | 0,o,h=>by have h2:some n0=some o:=h;cases h2;simp
 | 1,o,h=>by have h2:some n1=some o:=h;cases h2;simp
 | 2,o,h=>by have h2:some n2=some o:=h;cases h2;simp
 | 3,o,h=>by have h2:some n3=some o:=h;cases h2;simp
 | 4,o,h=>by have h2:some n4=some o:=h;cases h2;simp
 | 5,o,h=>by have h2:some n5=some o:=h;cases h2;simp
 | 6,o,h=>by have h2:some n6=some o:=h;cases h2;simp
 | 7,o,h=>by have h2:some n7=some o:=h;cases h2;simp
 | 8,o,h=>by have h2:some n8=some o:=h;cases h2;simp
 | 9,o,h=>by have h2:some n9=some o:=h;cases h2;simp
 | 10,o,h=>by have h2:some n10=some o:=h;cases h2;simp
 | 11,o,h=>by have h2:some n11=some o:=h;cases h2;simp
 | 12,o,h=>by have h2:some n12=some o:=h;cases h2;simp
 | 13,o,h=>by have h2:some n13=some o:=h;cases h2;simp
 | 14,o,h=>by have h2:some n14=some o:=h;cases h2;simp
 | 15,o,h=>by have h2:some n15=some o:=h;cases h2;simp
 | 16,o,h=>by have h2:some n16=some o:=h;cases h2;simp
 | n+17,o,h=>by simp[ops7]at h
theorem hN7: ∀i j d,zal ops7 i=some d->zal ops7 j=some d->i=j:=by
 intro i j d h1 h2
 rw[dst7]at h1 h2
 have hi:=(List.getElem?_eq_some_iff.1 h1).1
 have hj:=(List.getElem?_eq_some_iff.1 h2).1
 have key: ∀i,i<17-> ∀j,j<17->dl7[i]? = dl7[j]? -> i=j:=by decide
 exact key i hi j hj (h1.trans h2.symm)
theorem hlex7: ∀(i:Nat) (o:Oper),ops7[i]? = some o-> ∀e∈o.after,Region.binds .any e=true->e.on<i:=by
 intro i o h e he hb
 have key: ∀(k:Nat) (p:Oper),(p.after.all fun e=> !Region.binds .any e||decide (e.on<k))=true-> ∀e∈p.after,Region.binds .any e=true->e.on<k:=by
  intro k p hp e he hb
  rw[Array.all_eq_true_iff_forall_mem]at hp
  have:=hp e he
  simpa[hb]using this
 rcases o7 i o h with ⟨rfl,rfl⟩|⟨rfl,rfl⟩|⟨rfl,rfl⟩|⟨rfl,rfl⟩|⟨rfl,rfl⟩|⟨rfl,rfl⟩|⟨rfl,rfl⟩|⟨rfl,rfl⟩|⟨rfl,rfl⟩|⟨rfl,rfl⟩|⟨rfl,rfl⟩|⟨rfl,rfl⟩|⟨rfl,rfl⟩|⟨rfl,rfl⟩|⟨rfl,rfl⟩|⟨rfl,rfl⟩|⟨rfl,rfl⟩
 ·exact key 0 n0 (by simp[n0,Region.binds]) e he hb
 ·exact key 1 n1 (by simp[n1,Region.binds]) e he hb
 ·exact key 2 n2 (by simp[n2,Region.binds]) e he hb
 ·exact key 3 n3 (by simp[n3,Region.binds]) e he hb
 ·exact key 4 n4 (by simp[n4,Region.binds]) e he hb
 ·exact key 5 n5 (by simp[n5,Region.binds]) e he hb
 ·exact key 6 n6 (by simp[n6,Region.binds]) e he hb
 ·exact key 7 n7 (by simp[n7,Region.binds]) e he hb
 ·exact key 8 n8 (by simp[n8,Region.binds]) e he hb
 ·exact key 9 n9 (by simp[n9,Region.binds]) e he hb
 ·exact key 10 n10 (by simp[n10,Region.binds]) e he hb
 ·exact key 11 n11 (by simp[n11,Region.binds]) e he hb
 ·exact key 12 n12 (by simp[n12,Region.binds]) e he hb
 ·exact key 13 n13 (by simp[n13,Region.binds]) e he hb
 ·exact key 14 n14 (by simp[n14,Region.binds]) e he hb
 ·exact key 15 n15 (by simp[n15,Region.binds]) e he hb
 ·exact key 16 n16 (by simp[n16,Region.binds]) e he hb
theorem hg7 {a0:Act} (hz:a0.tmps.size=69): ∀(i:Nat) (o:Oper),ops7[i]? = some o->o.guard=none/\ ∃d,o.dst=some d/\d<a0.tmps.size:=by
 intro i o h
 rw[hz]
 rcases o7 i o h with ⟨rfl,rfl⟩|⟨rfl,rfl⟩|⟨rfl,rfl⟩|⟨rfl,rfl⟩|⟨rfl,rfl⟩|⟨rfl,rfl⟩|⟨rfl,rfl⟩|⟨rfl,rfl⟩|⟨rfl,rfl⟩|⟨rfl,rfl⟩|⟨rfl,rfl⟩|⟨rfl,rfl⟩|⟨rfl,rfl⟩|⟨rfl,rfl⟩|⟨rfl,rfl⟩|⟨rfl,rfl⟩|⟨rfl,rfl⟩
 ·exact⟨rfl,37,rfl,by decide⟩
 ·exact⟨rfl,38,rfl,by decide⟩
 ·exact⟨rfl,39,rfl,by decide⟩
 ·exact⟨rfl,40,rfl,by decide⟩
 ·exact⟨rfl,41,rfl,by decide⟩
 ·exact⟨rfl,42,rfl,by decide⟩
 ·exact⟨rfl,43,rfl,by decide⟩
 ·exact⟨rfl,44,rfl,by decide⟩
 ·exact⟨rfl,45,rfl,by decide⟩
 ·exact⟨rfl,46,rfl,by decide⟩
 ·exact⟨rfl,47,rfl,by decide⟩
 ·exact⟨rfl,48,rfl,by decide⟩
 ·exact⟨rfl,49,rfl,by decide⟩
 ·exact⟨rfl,50,rfl,by decide⟩
 ·exact⟨rfl,51,rfl,by decide⟩
 ·exact⟨rfl,52,rfl,by decide⟩
 ·exact⟨rfl,12,rfl,by decide⟩
def zDl (n:Nat):Array Value:=madeCells #[.int .i64 0,.slice none 0 0,.bool false,.int .i64 0,.int .i64 0] n
def zDq (n:Nat):Array Value:=madeCells #[.slice none 0 0] n
def Ph (c:Cf) (lo:Option Addr) (M mc g:Nat) (m:Int) (bo:Option Addr) (bn bc b4 b6:Nat):Nat->(Nat->Value)->List Nat->World->Prop
 | 0,ρ,B,w=>B=[]/\ρ 37= .agg #[.int .i64 c.l,.int .i64 c.s,.int .i64 c.w,.int .i64 c.q]
 | 1,ρ,B,w=>B=[]/\ρ 38= .slice lo M mc
 | 2,ρ,B,w=>B=[]/\ρ 39= .pointer (some ⟨b6,0,none⟩)
 | 3,ρ,B,w=>B=[]/\ρ 40= .int .i64 m
 | 4,ρ,B,w=>B=[]/\ρ 41= .pointer (some ⟨b6,1,none⟩)
 | 5,ρ,B,w=>B=[]/\ρ 42= .slice bo bn bc
 | 6,ρ,B,w=> ∃tb,ρ 43= .pointer (some ⟨tb,0,none⟩)/\Td w tb B [] (fun _=>False)
 | 7,ρ,B,w=>B=[]/\ρ 44= .pointer (some ⟨g,0,none⟩)
 | 8,ρ,B,w=>B=[]/\ρ 45= .pointer (some ⟨b4,0,none⟩)
 | 9,ρ,B,w=>B=[]/\ρ 46= .int .i64 c.l
 | 10,ρ,B,w=> ∃lb,ρ 47= .slice (some ⟨lb,0,none⟩) c.l.toNat c.l.toNat/\B=[lb]/\w.heap[lb]? = some (.cells (zDl (c.l.toNat*5)) 215 (0,0))
 | 11,ρ,B,w=>B=[]/\ρ 48= .pointer (some ⟨b4,1,none⟩)
 | 12,ρ,B,w=>B=[]/\ρ 49= .int .i64 c.s
 | 13,ρ,B,w=> ∃qq,ρ 50= .slice (some ⟨qq,0,none⟩) c.s.toNat c.s.toNat/\B=[qq]/\w.heap[qq]? = some (.cells (zDq (c.s.toNat*1)) 208 (0,0))
 | 14,ρ,B,w=>B=[]/\ρ 51= .agg #[.int .i64 c.l,.int .i64 c.s,.int .i64 c.w,.int .i64 c.q,ρ 38,ρ 40,.int .i64 0,ρ 42,ρ 43,ρ 44,.slice none 0 0,.slice none 0 0,ρ 47,ρ 50,.slice none 0 0]
 | 15,ρ,B,w=> ∃sb cells,ρ 51= .agg cells/\ρ 52= .pointer (some ⟨sb,0,none⟩)/\B=[sb]/\w.heap[sb]? = some (.cells cells 87 (0,0))
 | 16,ρ,B,w=>B=[]/\ρ 12=ρ 52
 | _,ρ,B,w=>True
theorem hPh7 (c:Cf) (lo:Option Addr) (M mc g:Nat) (m:Int) (bo:Option Addr) (bn bc b4 b6:Nat): ∀i ρ ρ' B w w',Fr [] w w'->(∀t,(zal ops7 i=some t\/ ∃j,dep ops7 i j=true/\zal ops7 j=some t)->ρ' t=ρ t)->Ph c lo M mc g m bo bn bc b4 b6 i ρ B w->Ph c lo M mc g m bo bn bc b4 b6 i ρ' B w'
 | 0,ρ,ρ',B,w,w',hf,hρ,h=>by have e37:=hρ 37 (Or.inl rfl);simp only[Ph]at h ⊢;rw[e37];exact h
 | 1,ρ,ρ',B,w,w',hf,hρ,h=>by have e38:=hρ 38 (Or.inl rfl);simp only[Ph]at h ⊢;rw[e38];exact h
 | 2,ρ,ρ',B,w,w',hf,hρ,h=>by have e39:=hρ 39 (Or.inl rfl);simp only[Ph]at h ⊢;rw[e39];exact h
 | 3,ρ,ρ',B,w,w',hf,hρ,h=>by have e40:=hρ 40 (Or.inl rfl);simp only[Ph]at h ⊢;rw[e40];exact h
 | 4,ρ,ρ',B,w,w',hf,hρ,h=>by have e41:=hρ 41 (Or.inl rfl);simp only[Ph]at h ⊢;rw[e41];exact h
 | 5,ρ,ρ',B,w,w',hf,hρ,h=>by have e42:=hρ 42 (Or.inl rfl);simp only[Ph]at h ⊢;rw[e42];exact h
 | 6,ρ,ρ',B,w,w',hf,hρ,h=>by have e43:=hρ 43 (Or.inl rfl);simp only[Ph]at h ⊢;rw[e43];obtain⟨tb,h1,h2⟩:=h;exact⟨tb,h1,h2.keep hf (by simp)⟩
 | 7,ρ,ρ',B,w,w',hf,hρ,h=>by have e44:=hρ 44 (Or.inl rfl);simp only[Ph]at h ⊢;rw[e44];exact h
 | 8,ρ,ρ',B,w,w',hf,hρ,h=>by have e45:=hρ 45 (Or.inl rfl);simp only[Ph]at h ⊢;rw[e45];exact h
 | 9,ρ,ρ',B,w,w',hf,hρ,h=>by have e46:=hρ 46 (Or.inl rfl);simp only[Ph]at h ⊢;rw[e46];exact h
 | 10,ρ,ρ',B,w,w',hf,hρ,h=>by have e47:=hρ 47 (Or.inl rfl);simp only[Ph]at h ⊢;rw[e47];obtain⟨b,h1,h2,h3⟩:=h;exact⟨b,h1,h2,hf.keep h3 (by simp)⟩
 | 11,ρ,ρ',B,w,w',hf,hρ,h=>by have e48:=hρ 48 (Or.inl rfl);simp only[Ph]at h ⊢;rw[e48];exact h
 | 12,ρ,ρ',B,w,w',hf,hρ,h=>by have e49:=hρ 49 (Or.inl rfl);simp only[Ph]at h ⊢;rw[e49];exact h
 | 13,ρ,ρ',B,w,w',hf,hρ,h=>by have e50:=hρ 50 (Or.inl rfl);simp only[Ph]at h ⊢;rw[e50];obtain⟨b,h1,h2,h3⟩:=h;exact⟨b,h1,h2,hf.keep h3 (by simp)⟩
 | 14,ρ,ρ',B,w,w',hf,hρ,h=>by have e38:=hρ 38 (Or.inr ⟨1,by simp[dep,ops7,n14,Region.binds],by rfl⟩);have e40:=hρ 40 (Or.inr ⟨3,by simp[dep,ops7,n14,Region.binds],by rfl⟩);have e42:=hρ 42 (Or.inr ⟨5,by simp[dep,ops7,n14,Region.binds],by rfl⟩);have e43:=hρ 43 (Or.inr ⟨6,by simp[dep,ops7,n14,Region.binds],by rfl⟩);have e44:=hρ 44 (Or.inr ⟨7,by simp[dep,ops7,n14,Region.binds],by rfl⟩);have e47:=hρ 47 (Or.inr ⟨10,by simp[dep,ops7,n14,Region.binds],by rfl⟩);have e50:=hρ 50 (Or.inr ⟨13,by simp[dep,ops7,n14,Region.binds],by rfl⟩);have e51:=hρ 51 (Or.inl rfl);simp only[Ph]at h ⊢;rw[e38,e40,e42,e43,e44,e47,e50,e51];exact h
 | 15,ρ,ρ',B,w,w',hf,hρ,h=>by have e51:=hρ 51 (Or.inr ⟨14,by simp[dep,ops7,n15,Region.binds],by rfl⟩);have e52:=hρ 52 (Or.inl rfl);simp only[Ph]at h ⊢;rw[e51,e52];obtain⟨b,cs,h1,h2,h3,h4⟩:=h;exact⟨b,cs,h1,h2,h3,hf.keep h4 (by simp)⟩
 | 16,ρ,ρ',B,w,w',hf,hρ,h=>by have e12:=hρ 12 (Or.inl rfl);have e52:=hρ 52 (Or.inr ⟨15,by simp[dep,ops7,n16,Region.binds],by rfl⟩);simp only[Ph]at h ⊢;rw[e12,e52];exact h
 | n+17,ρ,ρ',B,w,w',hf,hρ,h=>trivial
section
variable (ρ:Operand->Value) (w:World) {c:Cf} {lo:Option Addr} {M mc g b4 b6:Nat} {m:Int} {bo:Option Addr} {bn bc:Nat}
theorem rn0 (h:ρ (.tmp 4)= .pointer (some ⟨b4,0,none⟩)) (c0:w.cell? ⟨b4,0,none⟩=some (.int .i64 c.l)) (c1:w.cell? ⟨b4,1,none⟩=some (.int .i64 c.s)) (c2:w.cell? ⟨b4,2,none⟩=some (.int .i64 c.w)) (c3:w.cell? ⟨b4,3,none⟩=some (.int .i64 c.q)):(execOp ρ n0).run Tryz.prog w= .ok (.value (.agg #[.int .i64 c.l,.int .i64 c.s,.int .i64 c.w,.int .i64 c.q])) w:=by
 unfold n0
 go_simp
theorem rn1:(execOp ρ n1).run Tryz.prog w= .ok (.value (ρ (.tmp 1))) w:=by
 unfold n1
 go_simp
theorem rn2 (h:ρ (.tmp 6)= .pointer (some ⟨b6,0,none⟩)):(execOp ρ n2).run Tryz.prog w= .ok (.value (.pointer (some ⟨b6,0,none⟩))) w:=by
 unfold n2
 go_simp
theorem rn3 (h:ρ (.tmp 39)= .pointer (some ⟨b6,0,none⟩)) (c0:w.cell? ⟨b6,0,none⟩=some (.int .i64 m)):(execOp ρ n3).run Tryz.prog w= .ok (.value (.int .i64 m)) w:=by
 unfold n3
 go_simp
theorem rn4 (h:ρ (.tmp 6)= .pointer (some ⟨b6,0,none⟩)):(execOp ρ n4).run Tryz.prog w= .ok (.value (.pointer (some ⟨b6,1,none⟩))) w:=by
 unfold n4
 go_simp
theorem rn5 (h:ρ (.tmp 41)= .pointer (some ⟨b6,1,none⟩)) (c0:w.cell? ⟨b6,1,none⟩=some (.slice bo bn bc)):(execOp ρ n5).run Tryz.prog w= .ok (.value (.slice bo bn bc)) w:=by
 unfold n5
 go_simp
theorem rn6 (h:ρ (.func 31)= .func (.func 31) #[] #[]):(execOp ρ n6).run Tryz.prog w= .ok (.enter 31 #[]) w:=by
 unfold n6
 go_simp
theorem rn7:(execOp ρ n7).run Tryz.prog w= .ok (.value (ρ (.tmp 10))) w:=by
 unfold n7
 go_simp
theorem rn8 (h:ρ (.tmp 4)= .pointer (some ⟨b4,0,none⟩)):(execOp ρ n8).run Tryz.prog w= .ok (.value (.pointer (some ⟨b4,0,none⟩))) w:=by
 unfold n8
 go_simp
theorem rn9 (h:ρ (.tmp 45)= .pointer (some ⟨b4,0,none⟩)) (c0:w.cell? ⟨b4,0,none⟩=some (.int .i64 c.l)):(execOp ρ n9).run Tryz.prog w= .ok (.value (.int .i64 c.l)) w:=by
 unfold n9
 go_simp
theorem rn11 (h:ρ (.tmp 4)= .pointer (some ⟨b4,0,none⟩)):(execOp ρ n11).run Tryz.prog w= .ok (.value (.pointer (some ⟨b4,1,none⟩))) w:=by
 unfold n11
 go_simp
theorem rn12 (h:ρ (.tmp 48)= .pointer (some ⟨b4,1,none⟩)) (c1:w.cell? ⟨b4,1,none⟩=some (.int .i64 c.s)):(execOp ρ n12).run Tryz.prog w= .ok (.value (.int .i64 c.s)) w:=by
 unfold n12
 go_simp
theorem Tryz.infoXL:(Tryz.prog.info? 215).map (fun i=>(i.zero,i.size,i.bytes))=some (some (.agg #[.int .i64 0,.slice none 0 0,.bool false,.int .i64 0,.int .i64 0]),5,56):=by kernel_rfl
theorem Tryz.infoXWs:(Tryz.prog.info? 208).map (fun i=>(i.zero,i.size,i.bytes))=some (some (.slice none 0 0),1,24):=by kernel_rfl
theorem mkLn (w:World) (l:Int) (h0:0<=l) (h1:l<=16):(Instr.makeSlice 83 (.int .i64 l) (.int .i64 l)).run Tryz.prog w= .ok (.slice (some ⟨w.heap.size,0,none⟩) l.toNat l.toNat) (w.alloc (.cells (zDl (l.toNat*5)) 215)):=by
 have hi:=Tryz.infoXL
 cases hI:Tryz.prog.info? 215 with
 | none=>rw[hI]at hi;simp at hi
 | some i =>
  rw[hI]at hi
  simp only[Option.map_some,Option.some.injEq,Prod.mk.injEq]at hi
  have:=run_make (P:=Tryz.prog) w 83 215 i _ (by kernel_rfl) hI hi.1 .i64 .i64 l l h0 (Int.le_refl _) (by rw[hi.2.2];omega) (by omega)
  rw[hi.2.1]at this
  exact this
theorem mkQu (w:World) (l:Int) (h0:0<=l) (h1:l<=16):(Instr.makeSlice 84 (.int .i64 l) (.int .i64 l)).run Tryz.prog w= .ok (.slice (some ⟨w.heap.size,0,none⟩) l.toNat l.toNat) (w.alloc (.cells (zDq (l.toNat*1)) 208)):=by
 have hi:=Tryz.infoXWs
 cases hI:Tryz.prog.info? 208 with
 | none=>rw[hI]at hi;simp at hi
 | some i =>
  rw[hI]at hi
  simp only[Option.map_some,Option.some.injEq,Prod.mk.injEq]at hi
  have:=run_make (P:=Tryz.prog) w 84 208 i _ (by kernel_rfl) hI hi.1 .i64 .i64 l l h0 (Int.le_refl _) (by rw[hi.2.2];omega) (by omega)
  rw[hi.2.1]at this
  exact this
theorem rn10 (h:ρ (.tmp 46)= .int .i64 c.l) (h0:0<=c.l) (h1:c.l<=16):(execOp ρ n10).run Tryz.prog w= .ok (.value (.slice (some ⟨w.heap.size,0,none⟩) c.l.toNat c.l.toNat)) (w.alloc (.cells (zDl (c.l.toNat*5)) 215)):=by
 have hm:=mkLn w c.l h0 h1
 unfold n10
 go_simp
theorem rn13 (h:ρ (.tmp 49)= .int .i64 c.s) (h0:0<=c.s) (h1:c.s<=16):(execOp ρ n13).run Tryz.prog w= .ok (.value (.slice (some ⟨w.heap.size,0,none⟩) c.s.toNat c.s.toNat)) (w.alloc (.cells (zDq (c.s.toNat*1)) 208)):=by
 have hm:=mkQu w c.s h0 h1
 unfold n13
 go_simp
theorem rn14 {tb lb qq a1 a2:Nat} (h37:ρ (.tmp 37)= .agg #[.int .i64 c.l,.int .i64 c.s,.int .i64 c.w,.int .i64 c.q]) (h38:ρ (.tmp 38)= .slice lo M mc) (h40:ρ (.tmp 40)= .int .i64 m) (h42:ρ (.tmp 42)= .slice bo bn bc) (h43:ρ (.tmp 43)= .pointer (some ⟨tb,0,none⟩)) (h44:ρ (.tmp 44)= .pointer (some ⟨g,0,none⟩)) (h47:ρ (.tmp 47)= .slice (some ⟨lb,0,none⟩) a1 a1) (h50:ρ (.tmp 50)= .slice (some ⟨qq,0,none⟩) a2 a2) :
  (execOp ρ n14).run Tryz.prog w= .ok (.value (.agg #[.int .i64 c.l,.int .i64 c.s,.int .i64 c.w,.int .i64 c.q,.slice lo M mc,.int .i64 m,.int .i64 0,.slice bo bn bc,.pointer (some ⟨tb,0,none⟩),.pointer (some ⟨g,0,none⟩),.slice none 0 0,.slice none 0 0,.slice (some ⟨lb,0,none⟩) a1 a1,.slice (some ⟨qq,0,none⟩) a2 a2,.slice none 0 0])) w:=by
 unfold n14
 go_simp
theorem rn15 (cells:Array Value) (h:ρ (.tmp 51)= .agg cells):(execOp ρ n15).run Tryz.prog w= .ok (.value (.pointer (some ⟨w.heap.size,0,none⟩))) (w.alloc (.cells cells 87)):=by
 unfold n15
 go_simp
theorem rn16:(execOp ρ n16).run Tryz.prog w= .ok (.value (ρ (.tmp 52))) w:=by
 unfold n16
 go_simp
end
set_option maxHeartbeats 2000000 in
set_option maxRecDepth 100000 in
theorem hs7 {Q:Exit->Act->World->Prop} {a0:Act} {w0:World} {c:Cf} {lo:Option Addr} {M mc g b4 b6:Nat} {m:Int} {bo:Option Addr} {bn bc:Nat} (hc:c.may) (hz:a0.tmps.size=69) (t1:env a0 1= .slice lo M mc) (t4:env a0 4= .pointer (some ⟨b4,0,none⟩)) (t6:env a0 6= .pointer (some ⟨b6,0,none⟩)) (t10:env a0 10= .pointer (some ⟨g,0,none⟩))
  (hcf:CfM w0 b4 c.l c.s c.w c.q) (hm: ∀W,Fr [] w0 W->W.cell? ⟨b6,0,none⟩=some (.int .i64 m)/\W.cell? ⟨b6,1,none⟩=some (.slice bo bn bc)):Mkg Tryz.prog ops7 Q a0 w0 (Ph c lo M mc g m bo bn bc b4 b6):=by
 intro i o ho a w hza hf hsame hdep
 have hno: ∀t,t∉dl7->env a t=env a0 t:=fun t ht=>hsame t (fun j hj=>by rw[dst7]at hj;exact ht (List.mem_of_getElem? hj))
 have s1:env a 1= .slice lo M mc:=(hno 1 (by decide)).trans t1
 have s4:env a 4= .pointer (some ⟨b4,0,none⟩):=(hno 4 (by decide)).trans t4
 have s6:env a 6= .pointer (some ⟨b6,0,none⟩):=(hno 6 (by decide)).trans t6
 have s10:env a 10= .pointer (some ⟨g,0,none⟩):=(hno 10 (by decide)).trans t10
 have hsz: ∀d,d<69->d<a.tmps.size:=fun d hd=>by rw[hza,hz];exact hd
 obtain⟨_,k0,k1,k2,k3⟩:=hcf.keep hf
 have hl:=hc.1
 have hs:=hc.2.1
 rcases o7 i o ho with ⟨rfl,rfl⟩|⟨rfl,rfl⟩|⟨rfl,rfl⟩|⟨rfl,rfl⟩|⟨rfl,rfl⟩|⟨rfl,rfl⟩|⟨rfl,rfl⟩|⟨rfl,rfl⟩|⟨rfl,rfl⟩|⟨rfl,rfl⟩|⟨rfl,rfl⟩|⟨rfl,rfl⟩|⟨rfl,rfl⟩|⟨rfl,rfl⟩|⟨rfl,rfl⟩|⟨rfl,rfl⟩|⟨rfl,rfl⟩
 ·exact zas (rn0 _ _ s4 k0 k1 k2 k3) ⟨_,[],rfl,Fr.refl _ _,⟨rfl,zao (hsz 37 (by omega))⟩,by simp⟩
 ·exact zas (rn1 _ _) ⟨_,[],rfl,Fr.refl _ _,⟨rfl,(zao (hsz 38 (by omega))).trans s1⟩,by simp⟩
 ·exact zas (rn2 _ _ s6) ⟨_,[],rfl,Fr.refl _ _,⟨rfl,zao (hsz 39 (by omega))⟩,by simp⟩
 ·obtain⟨B,_,h4⟩:=hdep 2 (by simp[dep,ops7,n3,Region.binds])
  exact zas (rn3 _ _ h4 (hm w hf).1) ⟨_,[],rfl,Fr.refl _ _,⟨rfl,zao (hsz 40 (by omega))⟩,by simp⟩
 ·exact zas (rn4 _ _ s6) ⟨_,[],rfl,Fr.refl _ _,⟨rfl,zao (hsz 41 (by omega))⟩,by simp⟩
 ·obtain⟨B,_,h4⟩:=hdep 4 (by simp[dep,ops7,n5,Region.binds])
  exact zas (rn5 _ _ h4 (hm w hf).2) ⟨_,[],rfl,Fr.refl _ _,⟨rfl,zao (hsz 42 (by omega))⟩,by simp⟩
 ·unfold Oper.wp
  rw[rn6 _ _ rfl]
  refine Calls.mono (zus w) ?_
  rintro e w' ⟨tb,rfl,hB,hT,hf'⟩
  have hTd:Td w' tb (rall tb none []) [] (fun _=>False):=⟨none,0,0,[],[],rfl,hT,Rel.zero⟩
  refine⟨_,rall tb none [],rfl,hf',⟨tb,zao (hsz 43 (by omega)),hTd⟩,fun x hx=>⟨?_,hTd.lt x hx⟩⟩
  have e:x=tb:=by simpa[rall,Value.ownBlock]using hx
  rw[e]
  exact hB
 ·exact zas (rn7 _ _) ⟨_,[],rfl,Fr.refl _ _,⟨rfl,(zao (hsz 44 (by omega))).trans s10⟩,by simp⟩
 ·exact zas (rn8 _ _ s4) ⟨_,[],rfl,Fr.refl _ _,⟨rfl,zao (hsz 45 (by omega))⟩,by simp⟩
 ·obtain⟨B,_,h4⟩:=hdep 8 (by simp[dep,ops7,n9,Region.binds])
  exact zas (rn9 _ _ h4 k0) ⟨_,[],rfl,Fr.refl _ _,⟨rfl,zao (hsz 46 (by omega))⟩,by simp⟩
 ·obtain⟨B,_,h4⟩:=hdep 9 (by simp[dep,ops7,n10,Region.binds])
  exact zas (rn10 _ _ h4 (by omega) (by omega)) ⟨_,[w.heap.size],rfl,Fr.alloc _ _ _,⟨_,zao (hsz 47 (by omega)),rfl,heap_alloc_new _ _⟩,by simp⟩
 ·exact zas (rn11 _ _ s4) ⟨_,[],rfl,Fr.refl _ _,⟨rfl,zao (hsz 48 (by omega))⟩,by simp⟩
 ·obtain⟨B,_,h4⟩:=hdep 11 (by simp[dep,ops7,n12,Region.binds])
  exact zas (rn12 _ _ h4 k1) ⟨_,[],rfl,Fr.refl _ _,⟨rfl,zao (hsz 49 (by omega))⟩,by simp⟩
 ·obtain⟨B,_,h4⟩:=hdep 12 (by simp[dep,ops7,n13,Region.binds])
  exact zas (rn13 _ _ h4 (by omega) (by omega)) ⟨_,[w.heap.size],rfl,Fr.alloc _ _ _,⟨_,zao (hsz 50 (by omega)),rfl,heap_alloc_new _ _⟩,by simp⟩
 ·obtain⟨_,_,h37⟩:=hdep 0 (by simp[dep,ops7,n14,Region.binds])
  obtain⟨_,_,h38⟩:=hdep 1 (by simp[dep,ops7,n14,Region.binds])
  obtain⟨_,_,h40⟩:=hdep 3 (by simp[dep,ops7,n14,Region.binds])
  obtain⟨_,_,h42⟩:=hdep 5 (by simp[dep,ops7,n14,Region.binds])
  obtain⟨_,tb,h43,_⟩:=hdep 6 (by simp[dep,ops7,n14,Region.binds])
  obtain⟨_,_,h44⟩:=hdep 7 (by simp[dep,ops7,n14,Region.binds])
  obtain⟨_,lb,h47,_⟩:=hdep 10 (by simp[dep,ops7,n14,Region.binds])
  obtain⟨_,qq,h50,_⟩:=hdep 13 (by simp[dep,ops7,n14,Region.binds])
  refine zas (rn14 _ _ h37 h38 h40 h42 h43 h44 h47 h50) ⟨_,[],rfl,Fr.refl _ _,⟨rfl,?_⟩,by simp⟩
  show env (a.put (some 51) _) 51= .agg #[.int .i64 c.l,.int .i64 c.s,.int .i64 c.w,.int .i64 c.q,env (a.put (some 51) _) 38,env (a.put (some 51) _) 40,.int .i64 0,env (a.put (some 51) _) 42,env (a.put (some 51) _) 43,env (a.put (some 51) _) 44,.slice none 0 0,.slice none 0 0,env (a.put (some 51) _) 47,env (a.put (some 51) _) 50,.slice none 0 0]
  rw[zao (hsz 51 (by omega)),zbe (by decide),zbe (by decide),zbe (by decide),zbe (by decide),zbe (by decide),zbe (by decide),zbe (by decide),h38,h40,h42,h43,h44,h47,h50]
 ·obtain⟨_,_,h51⟩:=hdep 14 (by simp[dep,ops7,n15,Region.binds])
  refine zas (rn15 _ _ _ h51) ⟨_,[w.heap.size],rfl,Fr.alloc _ _ _,⟨_,_,(zbe (by decide)).trans h51,zao (hsz 52 (by omega)),rfl,heap_alloc_new _ _⟩,by simp⟩
 ·refine zas (rn16 _ _) ⟨_,[],rfl,Fr.refl _ _,⟨rfl,?_⟩,by simp⟩
  exact (zao (hsz 12 (by omega))).trans (zbe (by decide)).symm
theorem zzj (n i:Nat) (h:i<n):(zDl (n*5))[5*i]? = some (.int .i64 0)/\(zDl (n*5))[5*i+1]? = some (.slice none 0 0)/\(zDl (n*5))[5*i+2]? = some (.bool false)/\(zDl (n*5))[5*i+3]? = some (.int .i64 0)/\(zDl (n*5))[5*i+4]? = some (.int .i64 0):=by
 have e0:5*i%5=0:=by omega
 have e1:(5*i+1)%5=1:=by omega
 have e2:(5*i+2)%5=2:=by omega
 have e3:(5*i+3)%5=3:=by omega
 have e4:(5*i+4)%5=4:=by omega
 simp only[zDl,madeCells,Array.getElem?_map]
 rw[zcq _ _ (by omega),zcq _ _ (by omega),zcq _ _ (by omega),zcq _ _ (by omega),zcq _ _ (by omega)]
 simp[e0,e1,e2,e3,e4]
theorem zzk (n i:Nat) (h:i<n):(zDq (n*1))[i]? = some (.slice none 0 0):=by
 simp only[zDq,madeCells,Array.getElem?_map]
 rw[zcq _ _ (by omega)]
 simp[Nat.mod_one]
theorem ds_made {c:Cf} {lo:Option Addr} {M mc g b4 b6:Nat} {m:Int} {bo:Option Addr} {bn bc:Nat} {glo:Option Addr} {gn gc:Nat} {xs:List Int} {ts:List Tm} {wS w0 w:World} {ρ:Nat->Value} {B:Nat->List Nat} (hc:c.may) (hG:OG w g glo gn gc m xs) (hg:g<w0.heap.size) (hgS:wS.heap.size<=g) (hgr: ∀b,qb glo=some b->wS.heap.size<=b/\b<w0.heap.size/\b≠g)
  (hF:Fr [] wS w0) (hFw:Fr [] w0 w) (hT:TRs wS lo ts) (hM:M=ts.length/\M<=mc) (hX:IRs wS bo xs/\bn=xs.length/\bn<=bc)
  (hP: ∀i,i<17->Ph c lo M mc g m bo bn bc b4 b6 i ρ (B i) w) (hB: ∀i,i<17-> ∀x∈B i,w0.heap.size<=x/\x<w.heap.size) (hA: ∀i j,i≠j->i<17->j<17-> ∀x∈B i,x∉B j) :
  ∃Z:Zd,ρ 12= .pointer (some ⟨Z.sb,0,none⟩)/\DsM wS w Z c ts xs (ds0 m xs):=by
 obtain⟨_,p38⟩:=hP 1 (by omega)
 obtain⟨_,p40⟩:=hP 3 (by omega)
 obtain⟨_,p42⟩:=hP 5 (by omega)
 obtain⟨tb,p43,hTd⟩:=hP 6 (by omega)
 obtain⟨_,p44⟩:=hP 7 (by omega)
 obtain⟨lb,p47,B10,hlb⟩:=hP 10 (by omega)
 obtain⟨qq,p50,B13,hqq⟩:=hP 13 (by omega)
 obtain⟨_,p51⟩:=hP 14 (by omega)
 obtain⟨sb,cells,p51',p52,B15,hsb⟩:=hP 15 (by omega)
 obtain⟨_,p12⟩:=hP 16 (by omega)
 rw[p51,p38,p40,p42,p43,p44,p47,p50]at p51'
 cases p51'
 have hsb':=hB 15 (by omega) sb (by rw[B15];simp)
 have hlb':=hB 10 (by omega) lb (by rw[B10];simp)
 have hqq':=hB 13 (by omega) qq (by rw[B13];simp)
 have a1:sb≠lb:=fun e=>hA 15 10 (by omega) (by omega) (by omega) sb (by rw[B15];simp) (by rw[B10,e];simp)
 have a2:sb≠qq:=fun e=>hA 15 13 (by omega) (by omega) (by omega) sb (by rw[B15];simp) (by rw[B13,e];simp)
 have a3:lb≠qq:=fun e=>hA 10 13 (by omega) (by omega) (by omega) lb (by rw[B10];simp) (by rw[B13,e];simp)
 have a4: ∀x∈B 6,x≠sb/\x≠lb/\x≠qq/\w0.heap.size<=x:=fun x hx=>⟨fun e=>hA 6 15 (by omega) (by omega) (by omega) x hx (by rw[B15,e];simp),fun e=>hA 6 10 (by omega) (by omega) (by omega) x hx (by rw[B10,e];simp),fun e=>hA 6 13 (by omega) (by omega) (by omega) x hx (by rw[B13,e];simp),(hB 6 (by omega) x hx).1⟩
 have hSs:=hF.size
 refine⟨⟨sb,g,tb,lb,qq,B 6,⟨glo,gn,gc⟩,⟨none,0,0⟩,⟨none,0,0⟩,⟨none,0,0⟩,fun _=>⟨none,0,0⟩,lo,M,mc,bo,bn,bc⟩,by rw[p12,p52],?_⟩
 have hpart: ∀p b,b∈Zd.part ⟨sb,g,tb,lb,qq,B 6,⟨glo,gn,gc⟩,⟨none,0,0⟩,⟨none,0,0⟩,⟨none,0,0⟩,fun _=>⟨none,0,0⟩,lo,M,mc,bo,bn,bc⟩ p->(p=0/\b=sb)\/(p=1/\(b=g\/qb glo=some b))\/(p=2/\b=lb)\/(p=3/\b=qq)\/(p=4/\b∈B 6):=fun p b hb=>by
  match p,hb with
  | 0,hb=>exact Or.inl ⟨rfl,by simpa[Zd.part]using hb⟩
  | 1,hb=>exact Or.inr (Or.inl ⟨rfl,by simpa[Zd.part]using hb⟩)
  | 2,hb=>exact Or.inr (Or.inr (Or.inl ⟨rfl,by simpa[Zd.part]using hb⟩))
  | 3,hb=>exact Or.inr (Or.inr (Or.inr (Or.inl ⟨rfl,by simpa[Zd.part]using hb⟩)))
  | 4,hb=>exact Or.inr (Or.inr (Or.inr (Or.inr ⟨rfl,hb⟩)))
  | 5,hb|6,hb|7,hb=>simp[Zd.part,qb]at hb
  | n+8,hb=>simp[Zd.part,qb]at hb
 refine⟨fun p=> ?_,fun p p' b h1 h2=> ?_,fun p b hb=> ?_,hF.then hFw,hT,hM,hX,hc⟩
 ·match p with
  | 0=>exact hsb
  | 1=>exact hG
  | 2 =>
   refine⟨_,hlb,by simp[zDl,madeCells];omega,fun i hi=> ?_⟩
   obtain⟨q0,q1,q2,q3,q4⟩:=zzj c.l.toNat i hi
   exact⟨q0,⟨_,_,_,q1,fun hf=>(by cases hf)⟩,q2,q3,q4⟩
  | 3=>exact⟨_,hqq,by simp[zDq,madeCells],fun j hj=>zzk c.s.toNat j hj⟩
  | 4=>exact hTd
  | 5=>exact QR.nil _
  | 6=>exact QR.nil _
  | 7=>exact QC.nil _
  | n+8=>exact QW.nil _
 ·have b1:=hpart p b h1
  have b2:=hpart p' b h2
  rcases b1 with ⟨rfl,rfl⟩|⟨rfl,r⟩|⟨rfl,rfl⟩|⟨rfl,rfl⟩|⟨rfl,r⟩<;>rcases b2 with ⟨rfl,q⟩|⟨rfl,q⟩|⟨rfl,q⟩|⟨rfl,q⟩|⟨rfl,q⟩
  ·rfl
  ·exfalso;rcases q with q|q
   ·omega
   ·have:=hgr _ q;omega
  ·exact absurd q a1
  ·exact absurd q a2
  ·exact absurd rfl (a4 _ q).1
  ·exfalso;rcases r with r|r
   ·omega
   ·have:=hgr _ r;omega
  ·rfl
  ·exfalso;rcases r with r|r
   ·omega
   ·have:=hgr _ r;omega
  ·exfalso;rcases r with r|r
   ·omega
   ·have:=hgr _ r;omega
  ·exfalso;have:=(a4 _ q).2.2.2;rcases r with r|r
   ·omega
   ·have:=hgr _ r;omega
  ·exact absurd q.symm a1
  ·exfalso;rcases q with q|q
   ·omega
   ·have:=hgr _ q;omega
  ·rfl
  ·exact absurd q a3
  ·exact absurd rfl (a4 _ q).2.1
  ·exact absurd q.symm a2
  ·exfalso;rcases q with q|q
   ·omega
   ·have:=hgr _ q;omega
  ·exact absurd q.symm a3
  ·rfl
  ·exact absurd rfl (a4 _ q).2.2.1
  ·exact absurd q (a4 _ r).1
  ·exfalso;have:=(a4 _ r).2.2.2;rcases q with q|q
   ·omega
   ·have:=hgr _ q;omega
  ·exact absurd q (a4 _ r).2.1
  ·exact absurd q (a4 _ r).2.2.1
  ·rfl
 ·rcases hpart p b hb with ⟨_,rfl⟩|⟨_,r⟩|⟨_,rfl⟩|⟨_,rfl⟩|⟨_,r⟩
  ·omega
  ·rcases r with r|r
   ·omega
   ·exact (hgr _ r).1
  ·omega
  ·omega
  ·have:=(a4 _ r).2.2.2;omega
end Go.Proofs.YtaaghcimfcjehaaGreatDoor.Ck
