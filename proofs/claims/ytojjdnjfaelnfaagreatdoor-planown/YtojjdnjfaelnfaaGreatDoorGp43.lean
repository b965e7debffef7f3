/- Contracts and lemmas. -/
import Derived.Test.YtojjdnjfaelnfaaGreatDoorGp42
namespace Go.Proofs.YtojjdnjfaelnfaaGreatDoor
set_option linter.unusedSimpArgs false
set_option linter.unusedVariables false
section
open Go.Proofs.Tryz
def Sim(s t:Ms):Prop:={s with M:=t.M,k:=t.k}=t
theorem Sim.refl(s:Ms):Sim s s:=rfl
theorem Sim.can{s t:Ms}(h:Sim s t)(c:Cf)(q:Nat):canT c t q=canT c s q:=by
 rw[<-h];rfl
theorem StepR.sim{c:Cf}{T:List Tx}{s t s' t':Ms}{q:Nat}{k n sh ct k2 n2 sh2 ct2:Int}(h:StepR c T s q k n sh ct s')(g:StepR c T t q k2 n2 sh2 ct2 t')(hs:Sim s t):k=k2/\n=n2/\sh=sh2/\ct=ct2/\Sim s' t':=by
 obtain⟨M0,hM0⟩:∃M0,t.M=M0:=⟨_,rfl⟩;obtain⟨k0,hk0⟩:∃k0,t.k=k0:=⟨_,rfl⟩;unfold Sim at hs;rw[hM0,hk0]at hs
 subst hs;cases h with
 |read h1 hv hr hk hn h2 h3 e=>
  cases g with
  |read g1 gv gr gk gn g2 g3 ge=>subst e ge;exact⟨by omega,by rw[hn,gn],by omega,by omega,rfl⟩
  |disp g1 gv gr gk gn g2 g3 ge=>exact absurd (hv.symm.trans gv) (by decide)
  |take i r g1=>omega
  |send i g y r g1=>omega
  |done i g1=>omega
  |serve j e r i g M' g1=>omega
  |gate r g1=>omega
 |disp h1 hv hr hk hn h2 h3 e=>
  cases g with
  |read g1 gv gr gk gn g2 g3 ge=>exact absurd (hv.symm.trans gv) (by decide)
  |disp g1 gv gr gk gn g2 g3 ge=>subst e ge;exact⟨by omega,by rw[hn,gn],by omega,by rw[h3,g3];rfl,rfl⟩
  |take i r g1=>omega
  |send i g y r g1=>omega
  |done i g1=>omega
  |serve j e r i g M' g1=>omega
  |gate r g1=>omega
 |take i r h1 hi hn hl hk h2 h3 e=>
  cases g with
  |read g1=>omega
  |disp g1=>omega
  |take i2 r2 g1 gi gn gl gk g2 g3 ge=>
   obtain rfl:i=i2:=by omega
   have e2:n::r=n2::r2:=hl.symm.trans gl;cases e2;subst e ge;exact⟨by omega,rfl,by omega,by omega,rfl⟩
  |send i2 g y r2 g1 gi gn=>
   obtain rfl:i=i2:=by omega
   exact absurd (hn.symm.trans gn) (by simp)
  |done i2 g1 gi gn=>
   obtain rfl:i=i2:=by omega
   exact absurd (hn.symm.trans gn) (by simp)
  |serve j e r i g M' g1=>omega
  |gate r g1=>omega
 |send i g0 y r h1 hi hn hl hq hk hnn h2 h3 e=>
  cases g with
  |read g1=>omega
  |disp g1=>omega
  |take i2 r2 g1 gi gn=>
   obtain rfl:i=i2:=by omega
   exact absurd (gn.symm.trans hn) (by simp)
  |send i2 g y2 r2 g1 gi gn gl gq gk gnn g2 g3 ge=>
   obtain rfl:i=i2:=by omega
   have e2:some g0=some g:=hn.symm.trans gn;cases e2;have e3:y::r=y2::r2:=hl.symm.trans gl;cases e3;subst e ge;exact⟨by omega,by rw[hnn,gnn],by rw[h2,g2],by omega,rfl⟩
  |done i2 g1 gi gn=>
   obtain rfl:i=i2:=by omega
   have e2:some g0=some _:=hn.symm.trans gn;cases e2;cases hl
  |serve j e r i g M' g1=>omega
  |gate r g1=>omega
 |done i h1 hi hn hk h2 h3 e=>
  cases g with
  |read g1=>omega
  |disp g1=>omega
  |take i2 r2 g1 gi gn=>
   obtain rfl:i=i2:=by omega
   exact absurd (gn.symm.trans hn) (by simp)
  |send i2 g y2 r2 g1 gi gn gl=>
   obtain rfl:i=i2:=by omega
   have e2:some g=some _:=gn.symm.trans hn;cases e2;cases gl
  |done i2 g1 gi gn gk g2 g3 ge=>
   obtain rfl:i=i2:=by omega
   have e2:some _=some _:=hn.symm.trans gn;cases e2;subst e ge;exact⟨by omega,rfl,by omega,by omega,rfl⟩
  |serve j e r i g M' g1=>omega
  |gate r g1=>omega
 |serve j e0 r i g0 M' h1 hj hq hi hf hn hP hk hnn h2 h3 e=>
  cases g with
  |read g1=>omega
  |disp g1=>omega
  |take i2 r2 g1=>omega
  |send i2 g y2 r2 g1=>omega
  |done i2 g1=>omega
  |serve j2 e2 r2 i2 g M2 g1 gj gq gi gf gn gP gk gnn g2 g3 ge=>
   obtain rfl:j=j2:=by omega
   have e3:e0::r=e2::r2:=hq.symm.trans gq;cases e3;obtain rfl:i=i2:=by omega
   have e4:some g0=some g:=hn.symm.trans gn;cases e4;subst e ge;exact⟨by omega,by rw[hnn,gnn],by omega,by omega,rfl⟩
  |gate r g1=>omega
 |gate r h1 hp hk h2 h3 e=>
  cases g with
  |read g1=>omega
  |disp g1=>omega
  |take i2 r2 g1=>omega
  |send i2 g y2 r2 g1=>omega
  |done i2 g1=>omega
  |serve j2 e2 r2 i2 g M2 g1=>omega
  |gate r2 g1 gp gk g2 g3 ge=>
   have e2:n::r=n2::r2:=hp.symm.trans gp;cases e2;subst e ge;exact⟨by omega,rfl,by omega,by rw[h3,g3],rfl⟩
def goB(c:Cf)(lane k sh ct:Int):Int:=if (k=3/\ct=0)\/k=4\/k=7 then lane else if k=5 then c.l+1+sh else if k=6 then c.l+c.s+1 else 0
inductive Pz(F:Nat->Option Hl)(z:Nat)(s:Ms)(k sh ct:Int):Prop
 |p0:(k=3->ct≠0)->k≠4->k≠5->k≠6->k≠7->s.ln z=none->s.line=[]->s.pass=[]->(∀j,s.qs j=[])->Pz F z s k sh ct
 |p1:k=3->ct=0->s.hv=false->s.ln z=none->s.line=[(s.d:Int)]->s.pass=[]->(∀j,s.qs j=[])->Pz F z s k sh ct
 |p2 (l:List Wt):(k=4\/k=7)->s.hv=false->s.ln z=some ⟨(s.d:Int),l,0⟩->s.line=[]->s.pass=[]->(∀j,s.qs j=[])->Pz F z s k sh ct
 |p3 (l:List Wt) (j:Nat) (e:Qe):k=5->sh=(j:Int)->s.hv=false->s.ln z=some ⟨(s.d:Int),l,1⟩->s.qs j=[e]->e.f=((z+1:Nat):Int)->(∀i,i≠j->s.qs i=[])->s.line=[]->s.pass=[]->Pz F z s k sh ct
 |p4:k=6->s.hv=false->s.ln z=none->s.line=[]->s.pass=[(s.d:Int)]->(∀j,s.qs j=[])->Pz F z s k sh ct
theorem zacf{T:List Tx}{d:Nat}{en:Int->Prop}:frx (lgT T d) en (d:Int)=[]:=by
 obtain⟨zs,hz⟩:=zrc T d en (d:Int);rw[zir hz];refine List.eq_nil_iff_forall_not_mem.2 fun m hm=> ?_;obtain⟨_,h2,_⟩:=(hz.2 m).1 hm;have:=zqw h2;omega
section
variable{c:Cf}{T:List Tx}{F:Nat->Option Hl}{z:Nat}{s:Ms}{k sh ct:Int}
theorem Pz.can(h:Pz F z s k sh ct)(hW:Wf c T s)(hz:z<c.l.toNat)(hd:(k=3->ct≠0)->k≠4->k≠5->k≠6->k≠7->canD c s≠0):∃q:Nat,goB c ((z+1:Nat):Int) k sh ct=(q:Int)/\q<c.l.toNat+c.s.toNat+2/\canT c s q≠0:=by
 have hm:=hW.may;have hl:1<=c.l/\c.l<=16:=hm.1;have hs:1<=c.s/\c.s<=16:=hm.2.1;have hq:1<=c.q/\c.q<=16:=hm.2.2.2;cases h with
 |p0 h1 h4 h5 h6 h7 h8 h9 h10 h11=>
  refine⟨0,?_,by omega,?_⟩
  .unfold goB;rw[if_neg (by rintro (⟨a,b⟩|a|a)<;>first|exact h1 a b|exact h4 a|exact h7 a),if_neg h5,if_neg h6];rfl
  .unfold canT;rw[if_pos rfl];exact hd h1 h4 h5 h6 h7
 |p1 h1 h2 h3 h4 h5 h6 h7=>
  refine⟨z+1,?_,by omega,?_⟩
  .unfold goB;rw[if_pos (Or.inl ⟨h1,h2⟩)]
  .unfold canT;rw[if_neg (by omega),if_pos (by omega)];simp only[Nat.add_sub_cancel,canW,h4];rw[h5];simp
 |p2 l h1 h2 h3 h4 h5 h6=>
  refine⟨z+1,?_,by omega,?_⟩
  .unfold goB;rw[if_pos (Or.inr h1)]
  .unfold canT;rw[if_neg (by omega),if_pos (by omega)];simp only[Nat.add_sub_cancel,canW,h3];cases l with
   |nil=>simp
   |cons y r=>
    simp only;rw[h6,if_pos (by simp;omega)];simp
 |p3 l j e h1 h2 h3 h4 h5 h6 h7 h8 h9=>
  have hj:j<c.s.toNat:=by
   apply Classical.byContradiction;intro hj;obtain⟨A,hA,hA2,_⟩:=hW.las z _ hz h4;have ho:=hW.out z _ hz h4;simp only at ho;have:∀m,m<=c.s.toNat->outs s.qs ((z+1:Nat):Int) m=0:=by
    intro m;induction m with
    |zero=>intro _;rfl
    |succ m ih=>intro hm;rw[outs,ih (by omega),h7 m (by omega)];rfl
   have:=this _ (Nat.le_refl _);omega
  refine⟨c.l.toNat+1+j,?_,by omega,?_⟩
  .unfold goB;rw[if_neg (by rintro (⟨a,_⟩|a|a)<;>omega),if_pos h1,h2];omega
  .unfold canT;rw[if_neg (by omega),if_neg (by omega),if_pos (by omega),show c.l.toNat+1+j-c.l.toNat-1=j by omega];unfold canK;rw[h5];simp
 |p4 h1 h2 h3 h4 h5 h6=>
  refine⟨c.l.toNat+c.s.toNat+1,?_,by omega,?_⟩
  .unfold goB;rw[if_neg (by rintro (⟨a,_⟩|a|a)<;>omega),if_neg (by omega),if_pos h1];omega
  unfold canT;rw[if_neg (by omega),if_neg (by omega),if_neg (by omega)];unfold canG;rw[h5];simp
theorem Pz.step(h:Pz F z s k sh ct)(hW:Wf c T s)(hz:z<c.l.toNat){q:Nat}(hq:goB c ((z+1:Nat):Int) k sh ct=(q:Int)){k' n' sh' ct':Int}{s':Ms}(hr:StepR c T s q k' n' sh' ct' s'):Pz F z s' k' sh' ct'/\∀i,i≠z->s'.ln i=s.ln i:=by
 have hm:=hW.may;have hl:1<=c.l/\c.l<=16:=hm.1;have hs:1<=c.s/\c.s<=16:=hm.2.1;cases h with
 |p0 h1 h4 h5 h6 h7 h8 h9 h10 h11=>
  have hq0:q=0:=by
   unfold goB at hq;rw[if_neg (by rintro (⟨a,b⟩|a|a)<;>first|exact h1 a b|exact h4 a|exact h7 a),if_neg h5,if_neg h6]at hq;omega
  cases hr with
  |read g1 gv gr gk gn g2 g3 ge=>
   subst ge;exact⟨.p0 (by omega) (by omega) (by omega) (by omega) (by omega) h8 h9 h10 h11,fun i _=>rfl⟩
  |disp g1 gv gr gk gn g2 g3 ge=>
   have hrd:=hW.hol gv;subst ge;refine⟨?_,fun i _=>rfl⟩;by_cases hw:zax T s=[]
   .refine .p1 gk (by rw[g3,hw];rfl) rfl h8 ?_ h10 h11;show (if zax T s=[] then s.line++[(s.rd:Int)] else s.line)=[((s.d+1:Nat):Int)];rw[if_pos hw,h9,hrd];rfl
   .refine .p0 (fun _ e=> ?_) (by omega) (by omega) (by omega) (by omega) h8 ?_ h10 h11
    .rw[g3]at e
     exact hw (List.eq_nil_of_length_eq_zero (by omega))
    .show (if zax T s=[] then s.line++[(s.rd:Int)] else s.line)=[];rw[if_neg hw,h9]
  |take i r g1=>omega
  |send i g y r g1=>omega
  |done i g1=>omega
  |serve j e r i g M' g1=>omega
  |gate r g1=>omega
 |p1 h1 h2 h3 h4 h5 h6 h7=>
  have hq0:q=z+1:=by
   unfold goB at hq;rw[if_pos (Or.inl ⟨h1,h2⟩)]at hq;omega
  cases hr with
  |read g1=>omega
  |disp g1=>omega
  |take i r g1 gi gn gl gk g2 g3 ge=>
   obtain rfl:i=z:=by omega
   rw[h5]at gl
   cases gl;subst ge;exact⟨.p2 _ (Or.inl gk) h3 (zad _ _ _) rfl h6 h7,fun j hj=>zac _ _ hj⟩
  |send i g y r g1 gi gn=>
   obtain rfl:i=z:=by omega
   exact absurd (h4.symm.trans gn) (by simp)
  |done i g1 gi gn=>
   obtain rfl:i=z:=by omega
   exact absurd (h4.symm.trans gn) (by simp)
  |serve j e r i g M' g1=>omega
  |gate r g1=>omega
 |p2 l h1 h2 h3 h4 h5 h6=>
  have hq0:q=z+1:=by
   unfold goB at hq;rw[if_pos (Or.inr h1)]at hq;omega
  cases hr with
  |read g1=>omega
  |disp g1=>omega
  |take i r g1 gi gn=>
   obtain rfl:i=z:=by omega
   exact absurd (h3.symm.trans gn) (by simp)
  |send i g y r g1 gi gn gl gq gk gnn g2 g3 ge=>
   obtain rfl:i=z:=by omega
   have e2:some _=some g:=h3.symm.trans gn;cases e2;subst ge;refine⟨.p3 r (shW c y) ⟨((i+1:Nat):Int),(s.d:Int),y⟩ gk g2 h2 (zad _ _ _) ?_ rfl (fun j hj=> ?_) h4 h5,fun j hj=>zac _ _ hj⟩
   .show upd s.qs (shW c y) _ (shW c y)=_;rw[zad,h6];rfl
   .show upd s.qs (shW c y) _ j=_;rw[zac _ _ hj,h6]
  |done i g1 gi gn gk g2 g3 ge=>
   obtain rfl:i=z:=by omega
   have e2:some _=some _:=h3.symm.trans gn;cases e2;subst ge;refine⟨.p4 gk h2 (zad _ _ _) h4 ?_ h6,fun j hj=>zac _ _ hj⟩;show s.pass++[(s.d:Int)]=_;rw[h5];rfl
  |serve j e r i g M' g1=>omega
  |gate r g1=>omega
 |p3 l j e h1 h2 h3 h4 h5 h6 h7 h8 h9=>
  have hq0:(q:Int)=c.l+1+j:=by
   unfold goB at hq;rw[if_neg (by rintro (⟨a,_⟩|a|a)<;>omega),if_pos h1,h2]at hq;omega
  cases hr with
  |read g1=>omega
  |disp g1=>omega
  |take i r g1 gi=>omega
  |send i g y r g1 gi=>omega
  |done i g1 gi=>omega
  |serve j2 e2 r2 i2 g2 M' g1 gj gq gi gf gn gP gk gnn g2' g3 ge=>
   obtain rfl:j2=j:=by omega
   rw[h5]at gq
   cases gq;obtain rfl:i2=z:=by omega
   have e4:some _=some g2:=h4.symm.trans gn;cases e4;subst ge;have hidx:e.f.toNat-1=i2:=by omega
   refine⟨.p2 l (Or.inr gk) h3 ?_ h8 h9 (fun i=> ?_),fun i hi=> ?_⟩
   .show upd s.ln (e.f.toNat-1) (some (ackH ⟨(s.d:Int),l,1⟩)) i2=_;rw[hidx,zad];rfl
   .show upd s.qs j2 [] i=_;by_cases hi:i=j2
    .rw[hi,zad]
    rw[zac _ _ hi,h7 i hi]
   .show upd s.ln (e.f.toNat-1) _ i=_;rw[hidx,zac _ _ hi]
  |gate r g1=>exact absurd h9 (by rw[show s.pass=_ from ‹_›];simp)
 |p4 h1 h2 h3 h4 h5 h6=>
  have hq0:(q:Int)=c.l+c.s+1:=by
   unfold goB at hq;rw[if_neg (by rintro (⟨a,_⟩|a|a)<;>omega),if_neg (by omega),if_pos h1]at hq;omega
  cases hr with
  |read g1=>omega
  |disp g1=>omega
  |take i r g1 gi=>omega
  |send i g y r g1 gi=>omega
  |done i g1 gi=>omega
  |serve j2 e2 r2 i2 g2 M' g1 gj=>omega
  |gate r g1 gp gk g2 g3 ge=>
   rw[h5]at gp
   cases gp;subst ge;refine⟨.p0 (by omega) (by omega) (by omega) (by omega) (by omega) h3 ?_ rfl h6,fun i _=>rfl⟩;show s.line++frx (lgT T s.d) s.en (s.d:Int)=[];rw[h4,zacf];rfl
end
section
variable{c:Cf}{T:List Tx}{s:Ms}
theorem Wf.mark_ge(h:Wf c T s){m:Int}(hm:∀n,1<=n->n<=m->s.en n):m<=s.ma:=by
 apply Classical.byContradiction;intro hc;have hlo:=h.gok.1.low;have h2:=hm (s.ma+1) (by omega) (by omega);rcases ((h.en _).1 h2).2 with h3|h3
 .omega
 exact h.gok.2 h3
theorem Wf.mark_le(h:Wf c T s):s.ma<=(s.d:Int):=by
 by_cases e:1<=s.ma
 .exact h.enl _ ((h.en _).2 ⟨e,Or.inl (Int.le_refl _)⟩)
 omega
theorem Wf.d_rd(h:Wf c T s):s.d<=s.rd/\s.rd<=s.d+1:=by
 cases e:s.hv with
 |false=>have:=h.nor e;omega
 |true=>have:=h.hol e;omega
theorem Wf.mark_eq(h:Wf c T s)(hno:∀n,¬Opn T s n):s.ma=(s.d:Int):=by
 have h1:=h.mark_le;have h2:=h.mark_ge (m:=(s.d:Int)) fun n a b=>Classical.byContradiction fun e=>hno n (h.op.2 ⟨⟨a,b⟩,e⟩);omega
theorem StepR.nu{q:Nat}{k n sh ct:Int}{s':Ms}(hW:Wf c T s)(h:StepR c T s q k n sh ct s'):nu c T s'+1=nu c T s/\s'.k=s.k+1/\s'.fd=s.fd:=by
 cases h with
 |read h1 hv hr hk hn h2 h3 e=>subst e;exact⟨zafy hW hv hr,rfl,rfl⟩
 |disp h1 hv hr hk hn h2 h3 e=>subst e;exact⟨zafz hW hv,rfl,rfl⟩
 |take i r h1 hi hn hl hk h2 h3 e=>subst e;exact⟨zaga hW hi hn hl,rfl,rfl⟩
 |send i g y r h1 hi hn hl hq hk hnn h2 h3 e=>subst e;exact⟨zagb hW hi hn hl,rfl,rfl⟩
 |done i h1 hi hn hk h2 h3 e=>subst e;exact⟨zagc hW hi hn,rfl,rfl⟩
 |serve j e0 r i g M' h1 hj hq hi hf hn hP hk hnn h2 h3 e=>subst e;exact⟨zacg hW hj hq hi hf hn M',rfl,rfl⟩
 |gate r h1 hp hk h2 h3 e=>
  subst e;obtain⟨zs,hz⟩:=zrc T s.d s.en n;exact⟨zagd hW hp hz,rfl,rfl⟩
theorem StepR.ended{q:Nat}{k n sh ct:Int}{s':Ms}(h:StepR c T s q k n sh ct s'){x:Int}(hx:s.en x):s'.en x:=by
 cases h with
 |read h1 hv hr hk hn h2 h3 e=>subst e;exact hx
 |disp h1 hv hr hk hn h2 h3 e=>subst e;exact hx
 |take i r h1 hi hn hl hk h2 h3 e=>subst e;exact hx
 |send i g y r h1 hi hn hl hq hk hnn h2 h3 e=>subst e;exact hx
 |done i h1 hi hn hk h2 h3 e=>subst e;exact hx
 |serve j e0 r i g M' h1 hj hq hi hf hn hP hk hnn h2 h3 e=>subst e;exact hx
 |gate r h1 hp hk h2 h3 e=>subst e;exact Or.inl hx
theorem zug(hno:∀n,¬Opn T s n):zax T s=[]:=by
 obtain⟨xs,hx⟩:=zrb T s.d s.en (zar (wsAt T (s.rd:Int)));unfold zax;rw[zll hx];exact List.eq_nil_iff_forall_not_mem.2 fun m hm=>hno m ((hx.2 m).1 hm).1
theorem zage{m:Int}(hm:m∈zax T s):Opn T s m/\(1<=m/\m<=(s.d:Int))/\∃x∈wsAt T m,∃y∈wsAt T (s.rd:Int),x.key=y.key:=by
 obtain⟨xs,hx⟩:=zrb T s.d s.en (zar (wsAt T (s.rd:Int)));unfold zax at hm;rw[zll hx]at hm
 obtain⟨ho,key,hk,hl⟩:=(hx.2 m).1 hm;have hr:=(op_iff.1 ho).1;obtain⟨ks,h1,h2⟩:=zhb (lgT T s.d) key (zmr T s.d) (by omega);rw[hl]at h1
 have h3:=((zfb T s.d).1 h1).2;simp only at h3;rw[h3]at h2
 obtain⟨x,hx1,hx2⟩:=List.mem_map.1 h2;obtain⟨y,hy1,hy2⟩:=List.mem_map.1 hk;exact⟨ho,hr,x,hx1,y,hy1,hx2.trans hy2.symm⟩
end
inductive Fw(c:Cf)(T:List Tx)(R:Ms->Int->Ms->Prop):Ms->List Int->Ms->Prop
 |nil (s:Ms):Fw c T R s [] s
 |cons {s s1 s':Ms} {p:List Int} {q:Nat} {k n sh ct:Int}:Wf c T s->q<c.l.toNat+c.s.toNat+2->canT c s q≠0->StepR c T s q k n sh ct s1->R s k s1->Fw c T R s1 p s'->Fw c T R s ((q:Int)::p) s'
section
variable{c:Cf}{T:List Tx}{R:Ms->Int->Ms->Prop}
theorem Fw.app{s s1 s':Ms}{p p':List Int}(h:Fw c T R s p s1)(g:Fw c T R s1 p' s'):Fw c T R s (p++p') s':=by
 induction h with
 |nil=>exact g
 |cons a b d e f _ ih=>exact .cons a b d e f (ih g)
theorem Fw.snoc{s s1 s':Ms}{p:List Int}{q:Nat}{k n sh ct:Int}(h:Fw c T R s p s1)(hW:Wf c T s1)(hq:q<c.l.toNat+c.s.toNat+2)(hc:canT c s1 q≠0)(hr:StepR c T s1 q k n sh ct s')(hR:R s1 k s'):Fw c T R s (p++[(q:Int)]) s':=h.app (.cons hW hq hc hr hR (.nil _))
theorem Fw.nu{s s':Ms}{p:List Int}(h:Fw c T R s p s'):nu c T s'+p.length=nu c T s/\s'.k=s.k+p.length/\s'.fd=s.fd:=by
 induction h with
 |nil=>exact⟨rfl,rfl,rfl⟩
 |cons a b d e f _ ih=>
  obtain⟨h1,h2,h3⟩:=e.nu a;obtain⟨i1,i2,i3⟩:=ih;rw[List.length_cons];exact⟨by omega,by omega,i3.trans h3⟩
end
structure Gl(c:Cf)(T:List Tx)(z:Nat)(R:Ms->Int->Ms->Prop)(I:Ms->Int->Int->Int->Int->Prop)(U:Int->Int->Int->Prop):Prop where
 wf:∀s k n sh ct,I s k n sh ct->Wf c T s
 go:∀s k n sh ct,I s k n sh ct->¬U k n s.ma->∃q:Nat,goB c ((z+1:Nat):Int) k sh ct=(q:Int)/\q<c.l.toNat+c.s.toNat+2/\canT c s q≠0/\∀k' n' sh' ct' s',Wf c T s'->StepR c T s q k' n' sh' ct' s'->I s' k' n' sh' ct'/\R s k' s'
def phB(k ct:Int):Prop:=(k=3/\ct=0)\/k=4\/k=5\/k=6\/k=7
section
variable{c:Cf}{T:List Tx}{F:Nat->Option Hl}{z:Nat}{s:Ms}{k sh ct:Int}
theorem Pz.zero(h:Pz F z s k sh ct)(hc:c.may)(hq:goB c ((z+1:Nat):Int) k sh ct=0):¬phB k ct/\s.ln z=none/\s.line=[]/\s.pass=[]/\∀j,s.qs j=[]:=by
 have h1:=hc.1;have h2:=hc.2.1;cases h with
 |p0 e3 e4 e5 e6 e7 a b d e=>exact⟨fun x=>by rcases x with⟨x,y⟩|x|x|x|x<;>first|exact e3 x y|exact absurd x (by assumption),a,b,d,e⟩
 |p1 a b=>exfalso;unfold goB at hq;rw[if_pos (Or.inl ⟨a,b⟩)]at hq;omega
 |p2 l a=>exfalso;unfold goB at hq;rw[if_pos (Or.inr a)]at hq;omega
 |p3 l j e a b=>exfalso;unfold goB at hq;rw[if_neg (by rintro (⟨x,_⟩|x|x)<;>omega),if_pos a]at hq;omega
 |p4 a=>exfalso;unfold goB at hq;rw[if_neg (by rintro (⟨x,_⟩|x|x)<;>omega),if_neg (by omega),if_pos a]at hq;omega
theorem Pz.busy(h:Pz F z s k sh ct)(hb:phB k ct):s.hv=false:=by
 cases h with
 |p0 e3 e4 e5 e6 e7=>exfalso;rcases hb with⟨x,y⟩|x|x|x|x<;>first|exact e3 x y|exact absurd x (by assumption)
 |p1 _ _ a=>exact a
 |p2 _ _ a=>exact a
 |p3 _ _ _ _ _ a=>exact a
 |p4 _ a=>exact a
theorem Pz.idle(h:Pz F z s k sh ct)(hb:¬phB k ct):s.ln z=none/\s.line=[]/\s.pass=[]/\∀j,s.qs j=[]:=by
 cases h with
 |p0 e3 e4 e5 e6 e7 a b d e=>exact⟨a,b,d,e⟩
 |p1 a b=>exact absurd (Or.inl ⟨a,b⟩) hb
 |p2 l a=>exact absurd (by rcases a with a|a<;>simp[phB,a]) hb
 |p3 l j e a=>exact absurd (by simp[phB,a]) hb
 |p4 a=>exact absurd (by simp[phB,a]) hb
end
def ou(s:Ms):Int:=(s.line.length+s.pass.length:Nat)+(match s.ln 0 with|none=>0|some _=>1)
def R1(s:Ms)(k:Int)(s1:Ms):Prop:=(∀i,i≠0->s1.ln i=none)/\ou s1=ou s+(if k=3 then 1 else 0)-(if k=8 then 1 else 0)/\ou s1<=1
open Classical in
theorem Pz.ou{F:Nat->Option Hl}{s:Ms}{k sh ct:Int}(h:Pz F 0 s k sh ct):ou s=if phB k ct then 1 else 0:=by
 unfold Go.Proofs.YtojjdnjfaelnfaaGreatDoor.ou;cases h with
 |p0 e3 e4 e5 e6 e7 a b d e=>
  rw[if_neg (fun x=>by rcases x with⟨x,y⟩|x|x|x|x<;>first|exact e3 x y|exact absurd x (by assumption)),a,b,d];rfl
 |p1 a b _ d e f=>rw[if_pos (show phB k ct from Or.inl ⟨a,b⟩),d,e,f];rfl
 |p2 l a _ d e f=>rw[if_pos (show phB k ct by rcases a with a|a<;>simp[phB,a]),d,e,f];rfl
 |p3 l j e a _ _ d _ _ _ f g=>rw[if_pos (show phB k ct by simp[phB,a]),d,f,g];rfl
 |p4 a _ d e f=>rw[if_pos (show phB k ct by simp[phB,a]),d,e,f];rfl
structure Sr(c:Cf)(T:List Tx)(N:Nat)(s:Ms)(k sh ct:Int):Prop where
 W:Wf c T s
 p:Pz (fun _=>none) 0 s k sh ct
 o:∀i,i≠0->s.ln i=none
 w:∀n,¬s.wt n
 r:s.rd<=N/\N<=s.fd
section
variable{c:Cf}{T:List Tx}{N:Nat}{s:Ms}{k sh ct:Int}
theorem Sr.noop(h:Sr c T N s k sh ct)(h1:s.ln 0=none)(h2:s.line=[])(h3:s.pass=[]):∀n,¬Opn T s n:=by
 intro n hn;rcases h.W.all n hn with a|a|a|⟨i,g,a1,a2,_⟩
 .exact h.w n a
 .rw[h2]at a;cases a
 .rw[h3]at a;cases a
 by_cases e:i=0
 .rw[e,h1]at a2;cases a2
 rw[h.o i e]at a2;cases a2
theorem Sr.idle(h:Sr c T N s k sh ct)(hb:¬phB k ct):∀n,¬Opn T s n:=by
 obtain⟨a,b,d,_⟩:=h.p.idle hb;exact h.noop a b d
theorem Sr.lanes(h:Sr c T N s k sh ct):0<c.l.toNat:=by have:=h.W.may.1;omega
theorem Sr.fin(h:Sr c T N s k sh ct)(hm:s.ma=(N:Int)):s.hv=false/\s.rd=N/\s.d=N/\∀n,¬Opn T s n:=by
 have h1:=h.W.mark_le;have h2:=h.W.d_rd;have h3:=h.r;have hv:s.hv=false:=by
  cases e:s.hv with
  |false=>rfl
  |true=>have:=h.W.hol e;omega
 refine⟨hv,by omega,by omega,fun n hn=> ?_⟩;have:=h.W.near hn;have:=(h.W.op.1 hn).1;omega
theorem Sr.still(h:Sr c T N s k sh ct)(hm:s.ma=(N:Int)):s.ln 0=none/\s.line=[]/\s.pass=[]/\∀j,s.qs j=[]:=by
 obtain⟨_,_,_,hno⟩:=h.fin hm;have hl:=h.lanes;cases h.p with
 |p0 e3 e4 e5 e6 e7 a b d e=>exact⟨a,b,d,e⟩
 |p1 _ _ _ _ e=>exact absurd (h.W.line _ (by rw[e];exact List.mem_singleton.2 rfl)).1 (hno _)
 |p2 l _ _ e=>exact absurd (h.W.lane 0 _ hl e).1 (hno _)
 |p3 l j e _ _ _ d=>exact absurd (h.W.lane 0 _ hl d).1 (hno _)
 |p4 _ _ _ _ e=>exact absurd (h.W.pass _ (by rw[e];exact List.mem_singleton.2 rfl)).1 (hno _)
theorem Sr.start(hW:Wf c T s)(h1:∀i,s.ln i=none)(h2:s.line=[])(h3:s.pass=[])(h4:∀j,s.qs j=[])(h5:∀n,¬s.wt n)(hN:s.rd<=N/\N<=s.fd):Sr c T N s 0 0 0:=⟨hW,.p0 (by omega) (by omega) (by omega) (by omega) (by omega) (h1 0) h2 h3 h4,fun i _=>h1 i,h5,hN⟩
theorem Sr.again(h:Sr c T N s k sh ct)(hm:s.ma=(N:Int)){N':Nat}(hN:N<=N'/\N'<=s.fd):Sr c T N' s 0 0 0:=by
 obtain⟨a,b,d,e⟩:=h.still hm;have:=h.r;exact Sr.start h.W (fun i=>if x:i=0 then x▸a else h.o i x) b d e h.w ⟨by omega,hN.2⟩
theorem Sr.next(h:Sr c T N s k sh ct)(hN:s.ma≠(N:Int)):∃q:Nat,goB c ((0+1:Nat):Int) k sh ct=(q:Int)/\q<c.l.toNat+c.s.toNat+2/\canT c s q≠0/\∀k' n' sh' ct' s',Wf c T s'->StepR c T s q k' n' sh' ct' s'->Sr c T N s' k' sh' ct'/\R1 s k' s':=by
 have hz:=h.lanes;have hm:=h.W.may;have hc1:1<=c.l/\c.l<=16:=hm.1;have hc2:1<=c.s/\c.s<=16:=hm.2.1;have hw:=hm.2.2.1;have hr0:=h.r;have hdr:=h.W.d_rd;obtain⟨q,hq,hlt,hc⟩:=h.p.can h.W hz (fun a1 a2 a3 a4 a5=>by
  have hno:=h.idle (fun x=>by rcases x with⟨x,y⟩|x|x|x|x<;>first|exact a1 x y|exact absurd x (by assumption));have he:=h.W.mark_eq hno;unfold canD;cases e:s.hv with
  |false=>
   have:=h.W.nor e;rw[if_pos rfl,if_pos (by omega)];omega
  |true=>
   have:=h.W.hol e;rw[if_neg (by simp),if_pos (by omega)];omega)
 refine⟨q,hq,hlt,hc,fun k' n' sh' ct' s' hW' hr=> ?_⟩;obtain⟨hp',ho'⟩:=h.p.step h.W hz hq hr;have o':∀i,i≠0->s'.ln i=none:=fun i hi=>(ho' i hi).trans (h.o i hi);have hz0:q=0->¬phB k ct/\(∀n,¬Opn T s n):=fun e=>by
  obtain⟨a,b,d,f,_⟩:=h.p.zero hm (by rw[hq,e];rfl);exact⟨a,h.noop b d f⟩
 refine⟨⟨hW',hp',o',?_,?_⟩,o',?_⟩
 .cases hr with
  |read h1 hv hr hk hn h2 h3 e=>subst e;exact h.w
  |disp h1 hv hr hk hn h2 h3 e=>
   subst e;intro n hn;have:(if zax T s=[] then s.wt else fun m=>s.wt m\/m=(s.rd:Int)) n:=hn;rw[if_pos (zug (hz0 h1).2)]at this
   exact h.w n this
  |take i r h1 hi hn hl hk h2 h3 e=>subst e;exact h.w
  |send i g y r h1 hi hn hl hq hk hnn h2 h3 e=>subst e;exact h.w
  |done i h1 hi hn hk h2 h3 e=>subst e;exact h.w
  |serve j e0 r i g M' h1 hj hq hi hf hn hP hk hnn h2 h3 e=>subst e;exact h.w
  |gate r h1 hp hk h2 h3 e=>subst e;exact fun n hn=>h.w n hn.1
 .cases hr with
  |read h1 hv hr hk hn h2 h3 e=>
   subst e;have he:=h.W.mark_eq (hz0 h1).2;have:=h.W.nor hv;exact⟨by show s.rd+1<=N;omega,hr0.2⟩
  |disp h1 hv hr hk hn h2 h3 e=>subst e;exact hr0
  |take i r h1 hi hn hl hk h2 h3 e=>subst e;exact hr0
  |send i g y r h1 hi hn hl hq hk hnn h2 h3 e=>subst e;exact hr0
  |done i h1 hi hn hk h2 h3 e=>subst e;exact hr0
  |serve j e0 r i g M' h1 hj hq hi hf hn hP hk hnn h2 h3 e=>subst e;exact hr0
  |gate r h1 hp hk h2 h3 e=>subst e;exact hr0
 rw[hp'.ou,h.p.ou];have key:(k'=1/\¬phB k ct)\/(k'=3/\ct'=0/\¬phB k ct)\/((k'=4\/k'=5\/k'=6\/k'=7)/\phB k ct)\/(k'=8/\phB k ct):=by
  have hb:q≠0->phB k ct:=fun hne=>Classical.byContradiction fun x=>hne (by
   have:goB c ((0+1:Nat):Int) k sh ct=0:=by
    unfold goB;rw[if_neg (fun y=>x (by rcases y with y|y|y<;>simp[phB,y])),if_neg (fun y=>x (by simp[phB,y])),if_neg (fun y=>x (by simp[phB,y]))]
   omega)
  cases hr with
  |read h1 hv hr hk hn h2 h3 e=>exact Or.inl ⟨hk,(hz0 h1).1⟩
  |disp h1 hv hr hk hn h2 h3 e=>exact Or.inr (Or.inl ⟨hk,by rw[h3,zug (hz0 h1).2];rfl,(hz0 h1).1⟩)
  |take i r h1 hi hn hl hk h2 h3 e=>exact Or.inr (Or.inr (Or.inl ⟨by omega,hb (by omega)⟩))
  |send i g y r h1 hi hn hl hq hk hnn h2 h3 e=>exact Or.inr (Or.inr (Or.inl ⟨by omega,hb (by omega)⟩))
  |done i h1 hi hn hk h2 h3 e=>exact Or.inr (Or.inr (Or.inl ⟨by omega,hb (by omega)⟩))
  |serve j e0 r i g M' h1 hj hq hi hf hn hP hk hnn h2 h3 e=>exact Or.inr (Or.inr (Or.inl ⟨by omega,hb (by omega)⟩))
  |gate r h1 hp hk h2 h3 e=>exact Or.inr (Or.inr (Or.inr ⟨hk,hb (by omega)⟩))
 rcases key with⟨e,b⟩|⟨e,e2,b⟩|⟨e,b⟩|⟨e,b⟩
 .subst e;rw[if_neg b,if_neg (by simp[phB])];decide
 .subst e e2;rw[if_neg b,if_pos (by simp[phB])];decide
 .rw[if_pos b,if_pos (by rcases e with e|e|e|e<;>simp[phB,e]),if_neg (by omega),if_neg (by omega)];decide
 subst e;rw[if_pos b,if_neg (by simp[phB])];decide
theorem znz(c:Cf)(T:List Tx)(N:Nat):Gl c T 0 R1 (fun s k _ sh ct=>Sr c T N s k sh ct) (fun _ _ m=>m=(N:Int)):=⟨fun _ _ _ _ _ h=>h.W,fun _ _ _ _ _ h hu=>h.next hu⟩
theorem Gl.weak{R R':Ms->Int->Ms->Prop}{I:Ms->Int->Int->Int->Int->Prop}{U:Int->Int->Int->Prop}{z:Nat}(h:Gl c T z R I U)(hR:∀s k s1,R s k s1->R' s k s1):Gl c T z R' I U:=⟨h.wf,fun s k n sh ct hI hU=>by
 obtain⟨q,a,b,d,e⟩:=h.go s k n sh ct hI hU;exact⟨q,a,b,d,fun k' n' sh' ct' s' hW hr=>⟨(e k' n' sh' ct' s' hW hr).1,hR _ _ _ (e k' n' sh' ct' s' hW hr).2⟩⟩⟩
def Tk1(c:Cf)(T:List Tx)(i:Nat)(s:Ms)(k n sh ct:Int):Prop:=Sr c T i s k sh ct/\s.ma+1=(i:Int)/\((k=4/\n=(i:Int))\/(k≠4/\k≠5/\k≠6/\k≠7))
theorem zach(c:Cf)(T:List Tx)(i:Nat):Gl c T 0 (fun _ _ _=>True) (Tk1 c T i) (fun k n _=>k=4/\n=(i:Int)):=⟨fun _ _ _ _ _ h=>h.1.W,fun s k n sh ct hI hU=>by
 obtain⟨h,hma,hk⟩:=hI;have hk:=hk.resolve_left hU;obtain⟨q,hq,hlt,hc,hs⟩:=h.next (by omega);refine⟨q,hq,hlt,hc,fun k' n' sh' ct' s' hW' hr=> ?_⟩;have hs':=(hs k' n' sh' ct' s' hW' hr).1;refine⟨?_,trivial⟩;have hl:=h.lanes;have hm:=h.W.may;have hc1:1<=c.l/\c.l<=16:=hm.1;have hc2:1<=c.s/\c.s<=16:=hm.2.1;have hq1:q=0\/(q=1/\k=3/\ct=0):=by
  unfold goB at hq;by_cases x:k=3/\ct=0
  .rw[if_pos (Or.inl x)]at hq;exact Or.inr ⟨by omega,x⟩
  rw[if_neg (fun y=>y.elim x fun y=>y.elim hk.1 hk.2.2.2),if_neg hk.2.1,if_neg hk.2.2.1]at hq;exact Or.inl (by omega)
 have hp1:q=1->s.ln 0=none/\s.line=[(s.d:Int)]:=fun e=>by
  rcases hq1 with x|⟨_,x,y⟩
  .omega
  cases h.p with
  |p0 e3=>exact absurd y (e3 x)
  |p1 _ _ _ a b=>exact⟨a,b⟩
  |p2 l a=>omega
  |p3 l j e a=>omega
  |p4 a=>omega
 refine⟨hs',?_,?_⟩
 .cases hr with
  |read h1 hv hr hk hn h2 h3 e=>subst e;exact hma
  |disp h1 hv hr hk hn h2 h3 e=>subst e;exact hma
  |take i r h1 hi hn hl hk h2 h3 e=>subst e;exact hma
  |send i g y r h1 hi hn hl hq hk hnn h2 h3 e=>subst e;exact hma
  |done i h1 hi hn hk h2 h3 e=>subst e;exact hma
  |serve j e0 r i g M' h1 hj hq hi hf hn hP hk hnn h2 h3 e=>subst e;exact hma
  |gate r h1=>omega
 cases hr with
 |read h1 hv hr hk hn h2 h3 e=>exact Or.inr (by omega)
 |disp h1 hv hr hk hn h2 h3 e=>exact Or.inr (by omega)
 |take i0 r h1 hi hn hl hk h2 h3 e=>
  obtain⟨a,b⟩:=hp1 (by omega);rw[b]at hl
  cases hl;have ho:=(h.W.line (s.d:Int) (by rw[b];exact List.mem_singleton.2 rfl)).1;have:=h.W.near ho;have:=h.W.d_rd;have:=h.r;exact Or.inl ⟨hk,by omega⟩
 |send i0 g y r h1 hi hn=>
  obtain⟨a,b⟩:=hp1 (by omega);obtain rfl:i0=0:=by omega
  exact absurd (a.symm.trans hn) (by simp)
 |done i0 h1 hi hn=>
  obtain⟨a,b⟩:=hp1 (by omega);obtain rfl:i0=0:=by omega
  exact absurd (a.symm.trans hn) (by simp)
 |serve j e0 r i g M' h1=>omega
 |gate r h1=>omega⟩
structure Ap(c:Cf)(T:List Tx)(P:Nat->Prop)(i j:Nat)(s:Ms)(k n sh ct:Int):Prop where
 W:Wf c T s
 p:Pz (fun _=>none) 1 s k sh ct
 l0:∃l,s.ln 0=some ⟨(i:Int),l,0⟩
 o:∀a,a≠0->a≠1->s.ln a=none
 w:∀m,s.wt m->P m.toNat
 ma:(i:Int)<=s.ma+1
 r:s.rd<=j/\j<=s.fd
 a:s.rd<j\/s.hv=true\/(k=3/\ct=0)\/(k=4/\n=(j:Int))
 d:k=4->n=(s.d:Int)
theorem Tk1.apart{P:Nat->Prop}{i j:Nat}{n:Int}(h:Tk1 c T i s k n sh ct)(hU:k=4/\n=(i:Int))(hij:i<j)(hj:j<=s.fd):Ap c T P i j s 0 0 0 0:=by
 obtain⟨h,hma,_⟩:=h;have hl:=h.lanes;have hr:=h.r;have hdr:=h.W.d_rd;cases h.p with
 |p0 _ e4=>exact absurd hU.1 e4
 |p1 a=>omega
 |p2 l a b d e f g=>
  have hd:s.d=i:=by
   have:=h.W.near (h.W.lane 0 _ hl d).1;simp only at this;omega
  refine⟨h.W,.p0 (by omega) (by omega) (by omega) (by omega) (by omega) (h.o 1 (by omega)) e f g,⟨l,by rw[d,hd]⟩,fun a a0 _=>h.o a a0,fun m hm=>absurd hm (h.w m),by omega,⟨by omega,hj⟩,Or.inl (by omega),fun x=>by omega⟩
 |p3 l j e a=>omega
 |p4 a=>omega
theorem Ap.opens{P:Nat->Prop}{i j:Nat}{n:Int}(h:Ap c T P i j s k n sh ct)(hb:s.ln 1=none/\s.line=[]/\s.pass=[]):∀m,Opn T s m->m=(i:Int)\/P m.toNat:=by
 intro m hm;rcases h.W.all m hm with a|a|a|⟨b,g,a1,a2,a3⟩
 .exact Or.inr (h.w m a)
 .rw[hb.2.1]at a;cases a
 .rw[hb.2.2]at a;cases a
 by_cases e:b=0
 .obtain⟨l,hl⟩:=h.l0;rw[e,hl]at a2
  cases a2;exact Or.inl a3.symm
 by_cases e1:b=1
 .rw[e1,hb.1]at a2;cases a2
 rw[h.o b e e1]at a2;cases a2
theorem zzg(c:Cf)(T:List Tx)(P:Nat->Prop)(i j:Nat)(hP:P i)(hPs:∀m n:Nat,P m->m<n->(∃x∈wsAt T (m:Int),∃y∈wsAt T (n:Int),x.key=y.key)->P n)(hPj:¬P j)(hij:i<j)(hw:(j:Int)-i<c.w)(hl2:2<=c.l) :
  Gl c T 1 (fun _ _ _=>True) (Ap c T P i j) (fun k n _=>k=4/\n=(j:Int)):=⟨fun _ _ _ _ _ h=>h.W,fun s k n sh ct h hU=>by
 have hm:=h.W.may;have hc1:1<=c.l/\c.l<=16:=hm.1;have hc2:1<=c.s/\c.s<=16:=hm.2.1;have hz:1<c.l.toNat:=by omega
 have hr0:=h.r;have ha:=h.a;obtain⟨q,hq,hlt,hc⟩:=h.p.can h.W hz (fun a1 a2 a3 a4 a5=>by
  unfold canD;cases e:s.hv with
  |false=>
   have:s.rd<j:=by
    rcases ha with x|x|⟨x,y⟩|x
    .exact x
    .rw[e]at x;cases x
    .exact absurd y (a1 x)
    exact absurd x.1 a2
   rw[if_pos rfl,if_pos (by omega)];omega
  |true=>
   have:=h.ma;rw[if_neg (by simp),if_pos (by omega)];omega)
 refine⟨q,hq,hlt,hc,fun k' n' sh' ct' s' hW' hr=>⟨?_,trivial⟩⟩;obtain⟨hp',ho'⟩:=h.p.step h.W hz hq hr;have hz0:q=0->¬phB k ct/\s.ln 1=none/\s.line=[]/\s.pass=[]:=fun e=>by
  obtain⟨a,b,d,f,_⟩:=h.p.zero hm (by rw[hq,e];rfl);exact⟨a,b,d,f⟩
 have hbz:q≠0->phB k ct:=fun hne=>Classical.byContradiction fun x=>hne (by
  have:goB c ((1+1:Nat):Int) k sh ct=0:=by
   unfold goB;rw[if_neg (fun y=>x (by rcases y with y|y|y<;>simp[phB,y])),if_neg (fun y=>x (by simp[phB,y])),if_neg (fun y=>x (by simp[phB,y]))]
  omega)
 have hch:q=0->s.hv=true->zax T s≠[]->P s.rd:=fun e hv hne=>by
  obtain⟨m,r,hmr⟩:=List.exists_cons_of_ne_nil hne;obtain⟨ho,hmd,x,hx,y,hy,hxy⟩:=zage (T:=T) (s:=s) (m:=m) (by rw[hmr];exact List.mem_cons_self);have hrd:=h.W.hol hv;have hPm:P m.toNat:=by
   rcases h.opens (hz0 e).2 m ho with a|a
   .rw[a];exact hP
   exact a
  exact hPs m.toNat s.rd hPm (by omega) ⟨x,by rw[show ((m.toNat:Nat):Int)=m by omega];exact hx,y,hy,hxy⟩
 refine⟨hW',hp',by obtain⟨l,hl⟩:=h.l0;exact⟨l,(ho' 0 (by omega)).trans hl⟩,fun a a0 a1=>(ho' a a1).trans (h.o a a0 a1),?_,?_,?_,?_,?_⟩
 .cases hr with
  |read h1 hv hr hk hn h2 h3 e=>subst e;exact h.w
  |disp h1 hv hr hk hn h2 h3 e=>
   subst e;intro m hm;have hm:(if zax T s=[] then s.wt else fun m=>s.wt m\/m=(s.rd:Int)) m:=hm;by_cases x:zax T s=[]
   .rw[if_pos x]at hm;exact h.w m hm
   .rw[if_neg x]at hm
    rcases hm with hm|hm
    .exact h.w m hm
    .rw[hm];exact hch h1 hv x
  |take i r h1 hi hn hl hk h2 h3 e=>subst e;exact h.w
  |send i g y r h1 hi hn hl hq hk hnn h2 h3 e=>subst e;exact h.w
  |done i h1 hi hn hk h2 h3 e=>subst e;exact h.w
  |serve j e0 r i g M' h1 hj hq hi hf hn hP hk hnn h2 h3 e=>subst e;exact h.w
  |gate r h1 hp hk h2 h3 e=>subst e;exact fun n hn=>h.w n hn.1
 .have:=hW'.mark_ge (m:=(i:Int)-1) fun n a b=>hr.ended ((h.W.en n).2 ⟨a,Or.inl (by have:=h.ma;omega)⟩);omega
 .cases hr with
  |read h1 hv hr hk hn h2 h3 e=>
   subst e;have hb:=(hz0 h1).1;have:s.rd<j:=by
    rcases ha with x|x|x|x
    .exact x
    .rw[hv]at x;cases x
    .exact absurd (Or.inl x) hb
    exact absurd (Or.inr (Or.inl x.1)) hb
   exact⟨by show s.rd+1<=j;omega,hr0.2⟩
  |disp h1 hv hr hk hn h2 h3 e=>subst e;exact hr0
  |take i r h1 hi hn hl hk h2 h3 e=>subst e;exact hr0
  |send i g y r h1 hi hn hl hq hk hnn h2 h3 e=>subst e;exact hr0
  |done i h1 hi hn hk h2 h3 e=>subst e;exact hr0
  |serve j e0 r i g M' h1 hj hq hi hf hn hP hk hnn h2 h3 e=>subst e;exact hr0
  |gate r h1 hp hk h2 h3 e=>subst e;exact hr0
 .have hrest:q≠0->k≠3->s.rd<j:=fun e e3=>by
   have hv:=h.p.busy (hbz e);rcases ha with x|x|x|x
   .exact x
   .rw[hv]at x;cases x
   .exact absurd x.1 e3
   exact absurd x hU
  have hk3:q≠0->k=3->ct=0/\q=2:=fun e e3=>by
   have hc0:ct=0:=by rcases hbz e with x|x|x|x|x<;>omega
   refine⟨hc0,?_⟩;unfold goB at hq;rw[if_pos (Or.inl ⟨e3,hc0⟩)]at hq
   omega
  have hk3':q≠0->k=3->s.ln 1=none/\s.line=[(s.d:Int)]:=fun e e3=>by
   have hc0:=(hk3 e e3).1;cases h.p with
   |p0 x=>exact absurd hc0 (x e3)
   |p1 _ _ _ a b=>exact⟨a,b⟩
   |p2 l a=>omega
   |p3 l j e a=>omega
   |p4 a=>omega
  cases hr with
  |read h1 hv hr hk hn h2 h3 e=>subst e;exact Or.inr (Or.inl rfl)
  |disp h1 hv hr hk hn h2 h3 e=>
   subst e;by_cases x:s.rd<j
   .exact Or.inl x
   .refine Or.inr (Or.inr (Or.inl ⟨hk,?_⟩));have:zax T s=[]:=Classical.byContradiction fun y=>hPj (by
     have:=hch h1 hv y
     rwa [show s.rd=j by omega]at this)
    rw[h3,this];rfl
  |take i r h1 hi hn hl hk h2 h3 e=>
   subst e;by_cases e3:k=3
   .have hb:=(hk3' (by omega) e3).2;rw[hb]at hl
    cases hl;have hv:=h.p.busy (hbz (by omega));have:=h.W.nor hv;by_cases x:s.rd<j
    .exact Or.inl x
    exact Or.inr (Or.inr (Or.inr ⟨hk,by omega⟩))
   .exact Or.inl (hrest (by omega) e3)
  |send i g y r h1 hi hn hl hq hk hnn h2 h3 e=>
   subst e;refine Or.inl (hrest (by omega) fun e3=> ?_);obtain rfl:i=1:=by have:=(hk3 (by omega) e3).2;omega
   exact absurd ((hk3' (by omega) e3).1.symm.trans hn) (by simp)
  |done i h1 hi hn hk h2 h3 e=>
   subst e;refine Or.inl (hrest (by omega) fun e3=> ?_);obtain rfl:i=1:=by have:=(hk3 (by omega) e3).2;omega
   exact absurd ((hk3' (by omega) e3).1.symm.trans hn) (by simp)
  |serve j e0 r i g M' h1 hj hq hi hf hn hP hk hnn h2 h3 e=>subst e;exact Or.inl (hrest (by omega) fun e3=>by have:=(hk3 (by omega) e3).2;omega)
  |gate r h1 hp hk h2 h3 e=>subst e;exact Or.inl (hrest (by omega) fun e3=>by have:=(hk3 (by omega) e3).2;omega)
 intro hk';cases hr with
 |read h1 hv hr hk=>omega
 |disp h1 hv hr hk=>omega
 |take i0 r h1 hi hn hl hk h2 h3 e=>
  subst e;show n'=(s.d:Int);cases h.p with
  |p0 _ _ _ _ _ _ x=>rw[x]at hl;cases hl
  |p1 _ _ _ _ x=>rw[x]at hl;cases hl;rfl
  |p2 l _ _ _ x=>rw[x]at hl;cases hl
  |p3 l j e _ _ _ _ _ _ _ x=>rw[x]at hl;cases hl
  |p4 _ _ _ x=>rw[x]at hl;cases hl
 |send i g y r h1 hi hn hl hq hk=>omega
 |done i h1 hi hn hk=>omega
 |serve j e0 r i g M' h1 hj hq hi hf hn hP hk=>omega
 |gate r h1 hp hk=>omega⟩
theorem Ap.fin{P:Nat->Prop}{i j:Nat}{n:Int}(h:Ap c T P i j s k n sh ct)(hU:k=4/\n=(j:Int))(hl2:2<=c.l):(∃l,s.ln 0=some ⟨(i:Int),l,0⟩)/\(∃l,s.ln 1=some ⟨(j:Int),l,0⟩)/\s.ma<(i:Int):=by
 have hz:0<c.l.toNat:=by omega
 obtain⟨l,hl⟩:=h.l0;refine⟨⟨l,hl⟩,?_,?_⟩
 .have hd:=h.d hU.1;cases h.p with
  |p0 _ e4=>exact absurd hU.1 e4
  |p1 a=>omega
  |p2 l a b d=>exact⟨l,by rw[d,<-hd,hU.2]⟩
  |p3 l j e a=>omega
  |p4 a=>omega
 have:=h.W.near (h.W.lane 0 _ hz hl).1;exact this.1
theorem zaiz{R:Ms->Int->Ms->Prop}{s0 s':Ms}{p:List Int}{j:Nat}(h:Fw c T R s0 p s')(h0:nu c T s0=rdS T s0.fd)(hj:s'.rd<=j)(hjf:j<=s0.fd):p.length<=rdS T j:=by
 obtain⟨h1,_,h3⟩:=h.nu;have h4:rdS T s'.fd-rdS T s'.rd<=nu c T s':=by unfold nu;omega
 have h5:=zks T hj;have h6:=zks T hjf;rw[h3]at h4
 omega
end
end
section
open Go.ChangeShapes Go.WideShapes Go.ChangeAt Go.RowKit Go.Lib Go.Proofs.Tryz
def ByF(W:World)(c:Cf)(lane:Int)(v:Value)(B:List Nat):Prop:=∃a b,v=.func (Fn.func 60) #[] #[.pointer (some ⟨b,0,none⟩),.pointer (some ⟨a,0,none⟩)]/\B=[a,b]/\W.heap[a]? = some (.cells #[.int .i64 c.l,.int .i64 c.s,.int .i64 c.w,.int .i64 c.q] 23 (0,0))/\W.heap[b]? = some (.cells #[.int .i64 lane] 3 (0,0))
inductive UnF(W:World)(n:Int)(v:Value)(B:List Nat):Bool->Prop
 |mark (a:Nat):v=.func (Fn.func 61) #[] #[.pointer (some ⟨a,0,none⟩)]->B=[a]->W.heap[a]? = some (.cells #[.int .i64 n] 3 (0,0))->UnF W n v B false
 |take (a:Nat):v=.func (Fn.func 63) #[] #[.pointer (some ⟨a,0,none⟩)]->B=[a]->W.heap[a]? = some (.cells #[.int .i64 n] 3 (0,0))->UnF W n v B true
def Unt(tk:Bool)(N:Int)(k n m:Int):Prop:=if tk=true then k=4/\n=N else m=N
theorem zlr(l s x q lane:Int)(w:World):Calls prog 12 #[.agg #[.int .i64 l,.int .i64 s,.int .i64 x,.int .i64 q],.int .i64 lane] w fun e w'=>Fr [] w w'/\∃v a b,e=.returned v/\ByF w' ⟨l,s,x,q⟩ lane v [a,b]/\w.heap.size<=a/\w.heap.size<=b:=by
 have hmf:∀(fn:Fn)(first cap:Array Value)(w:World),(Instr.makeFunc fn first cap).run prog w=.ok (.func fn first cap) w:=fun _ _ _ _=>rfl;go_enter func12,ntmps12;go_wp2;go_ret;refine⟨(Fr.alloc [] w _).then (Fr.alloc [] _ _),_,w.heap.size,w.heap.size+1,rfl,⟨w.heap.size,w.heap.size+1,?_,rfl,?_,?_⟩,Nat.le_refl _,Nat.le_succ _⟩
 .simp
 .exact (Below.heap_alloc _ _ _ (by simp)).trans (heap_alloc_new _ _)
 have:=heap_alloc_new (w.alloc (.cells #[.int .i64 l,.int .i64 s,.int .i64 x,.int .i64 q] 23)) (.cells #[.int .i64 lane] 3);simpa using this
theorem zls(n:Int)(w:World):Calls prog 13 #[.int .i64 n] w fun e w'=>Fr [] w w'/\∃v a,e=.returned v/\UnF w' n v [a] false/\w.heap.size<=a:=by
 have hmf:∀(fn:Fn)(first cap:Array Value)(w:World),(Instr.makeFunc fn first cap).run prog w=.ok (.func fn first cap) w:=fun _ _ _ _=>rfl;go_enter func13,ntmps13;go_wp2;go_ret;exact⟨Fr.alloc [] w _,_,w.heap.size,rfl,.mark w.heap.size rfl rfl (heap_alloc_new _ _),Nat.le_refl _⟩
theorem zoa(n:Int)(w:World):Calls prog 15 #[.int .i64 n] w fun e w'=>Fr [] w w'/\∃v a,e=.returned v/\UnF w' n v [a] true/\w.heap.size<=a:=by
 have hmf:∀(fn:Fn)(first cap:Array Value)(w:World),(Instr.makeFunc fn first cap).run prog w=.ok (.func fn first cap) w:=fun _ _ _ _=>rfl;go_enter func15,ntmps15;go_wp2;go_ret;exact⟨Fr.alloc [] w _,_,w.heap.size,rfl,.take w.heap.size rfl rfl (heap_alloc_new _ _),Nat.le_refl _⟩
theorem ztb{a:Nat}{N:Int}{w:World}(t k n sh ct m:Int)(ha:w.heap[a]? = some (.cells #[.int .i64 N] 3 (0,0))):Calls prog 61 #[evV t k n sh ct m,.pointer (some ⟨a,0,none⟩)] w fun e w'=>e=.returned (.bool (m==N))/\Fr [] w w':=by
 obtain⟨w1,HW1⟩:∃w1,Hid (w.alloc (.cells #[.int .i64 t,.int .u8 k,.int .i64 n,.int .i64 sh,.int .i64 ct,.int .i64 m] 62)=w1):=⟨_,rfl⟩;obtain⟨A,HA⟩:∃A,Hid (w.heap.size=A):=⟨_,rfl⟩;have HF1:Hid (Fr [] w w1):=by rw[<-HW1.out];exact Fr.alloc [] w _
 have hb1:w1.heap[A]? = some (.cells #[.int .i64 t,.int .u8 k,.int .i64 n,.int .i64 sh,.int .i64 ct,.int .i64 m] 62 (0,0)):=by rw[<-HW1.out,<-HA.out];exact heap_alloc_new _ _
 have c5:w1.cell? ⟨A,5,none⟩=some (.int .i64 m):=by rw[crw hb1];rfl
 have ca:w1.cell? ⟨a,0,none⟩=some (.int .i64 N):=by rw[crw (HF1.out.keep ha (by simp))];rfl
 clear hb1 ha;unfold evV;go_enter func61,ntmps61;go_upto_region 1 with fail
 rw[HW1.out,HA.out];clear HW1 HA;go_wp2;go_ret;exact⟨rfl,HF1.out⟩
theorem zvz{a:Nat}{N:Int}{w:World}(t k n sh ct m:Int)(ha:w.heap[a]? = some (.cells #[.int .i64 N] 3 (0,0))):Calls prog 63 #[evV t k n sh ct m,.pointer (some ⟨a,0,none⟩)] w fun e w'=>(∃b:Bool,e=.returned (.bool b)/\(b=true↔k=4/\n=N))/\Fr [] w w':=by
 obtain⟨w1,HW1⟩:∃w1,Hid (w.alloc (.cells #[.int .i64 t,.int .u8 k,.int .i64 n,.int .i64 sh,.int .i64 ct,.int .i64 m] 62)=w1):=⟨_,rfl⟩;obtain⟨A,HA⟩:∃A,Hid (w.heap.size=A):=⟨_,rfl⟩;have HF1:Hid (Fr [] w w1):=by rw[<-HW1.out];exact Fr.alloc [] w _
 have hb1:w1.heap[A]? = some (.cells #[.int .i64 t,.int .u8 k,.int .i64 n,.int .i64 sh,.int .i64 ct,.int .i64 m] 62 (0,0)):=by rw[<-HW1.out,<-HA.out];exact heap_alloc_new _ _
 have c1:w1.cell? ⟨A,1,none⟩=some (.int .u8 k):=by rw[crw hb1];rfl
 have c2:w1.cell? ⟨A,2,none⟩=some (.int .i64 n):=by rw[crw hb1];rfl
 have ca:w1.cell? ⟨a,0,none⟩=some (.int .i64 N):=by rw[crw (HF1.out.keep ha (by simp))];rfl
 clear hb1 ha;unfold evV;by_cases hk:k=4
 .subst hk;go_enter func63,ntmps63;go_upto_region 1 with fail
  rw[HW1.out,HA.out];clear HW1 HA;go_wp2;go_ret;exact⟨⟨_,rfl,by simp⟩,HF1.out⟩
 have hk1:(k==4)=false:=by simp[hk]
 have HK:Hid (¬k=4):=hk;clear hk;go_enter func63,ntmps63;go_upto_region 1 with fail
 rw[HW1.out,HA.out];clear HW1 HA;go_wp2;go_ret;exact⟨⟨false,rfl,⟨fun h=>absurd h (by simp),fun h=>absurd h.1 HK.out⟩⟩,HF1.out⟩
theorem zagg{a b:Nat}{c:Cf}{lane:Int}{w:World}(t k n sh ct m:Int)(hc:c.may)(hs:0<=sh/\sh<=1000)(ha:w.heap[a]? = some (.cells #[.int .i64 c.l,.int .i64 c.s,.int .i64 c.w,.int .i64 c.q] 23 (0,0)))(hb:w.heap[b]? = some (.cells #[.int .i64 lane] 3 (0,0))) :
  Calls prog 60 #[evV t k n sh ct m,.pointer (some ⟨b,0,none⟩),.pointer (some ⟨a,0,none⟩)] w fun e w'=>e=.returned (.int .i64 (goB c lane k sh ct))/\Fr [] w w':=by
 obtain⟨w1,HW1⟩:∃w1,Hid (w.alloc (.cells #[.int .i64 t,.int .u8 k,.int .i64 n,.int .i64 sh,.int .i64 ct,.int .i64 m] 62)=w1):=⟨_,rfl⟩;obtain⟨A,HA⟩:∃A,Hid (w.heap.size=A):=⟨_,rfl⟩;have HF1:Hid (Fr [] w w1):=by rw[<-HW1.out];exact Fr.alloc [] w _
 have hb1:w1.heap[A]? = some (.cells #[.int .i64 t,.int .u8 k,.int .i64 n,.int .i64 sh,.int .i64 ct,.int .i64 m] 62 (0,0)):=by rw[<-HW1.out,<-HA.out];exact heap_alloc_new _ _
 have c1:w1.cell? ⟨A,1,none⟩=some (.int .u8 k):=by rw[crw hb1];rfl
 have c3:w1.cell? ⟨A,3,none⟩=some (.int .i64 sh):=by rw[crw hb1];rfl
 have c4:w1.cell? ⟨A,4,none⟩=some (.int .i64 ct):=by rw[crw hb1];rfl
 have cb:w1.cell? ⟨b,0,none⟩=some (.int .i64 lane):=by rw[crw (HF1.out.keep hb (by simp))];rfl
 have d0:w1.cell? ⟨a,0,none⟩=some (.int .i64 c.l):=by rw[crw (HF1.out.keep ha (by simp))];rfl
 have d1:w1.cell? ⟨a,1,none⟩=some (.int .i64 c.s):=by rw[crw (HF1.out.keep ha (by simp))];rfl
 have m1:=hc.1;have m2:=hc.2.1;obtain⟨l,hl⟩:∃l,c.l=l:=⟨_,rfl⟩;obtain⟨z,hz⟩:∃z,c.s=z:=⟨_,rfl⟩;have HG:Hid (∀v,v=(if (k=3/\ct=0)\/k=4\/k=7 then lane else if k=5 then l+1+sh else if k=6 then l+z+1 else 0)->v=goB c lane k sh ct):=fun v e=>by rw[e,<-hl,<-hz];rfl
 rw[hl]at m1 d0
 rw[hz]at m2 d1
 clear hb1 ha hb hl hz hc;unfold evV;by_cases h3:k=3
 .subst h3;by_cases h0:ct=0
  .subst h0;go_enter func60,ntmps60;go_upto_region 1 with fail
   rw[HW1.out,HA.out];clear HW1 HA;go_wp2;go_ret;exact⟨by rw[<-HG.out lane (by simp)];rfl,HF1.out⟩
  have k0:(ct==0)=false:=by simp[h0]
  have HN:Hid (¬ct=0):=h0;clear h0;go_enter func60,ntmps60;go_upto_region 1 with fail
  rw[HW1.out,HA.out];clear HW1 HA;go_wp2;go_ret;exact⟨by rw[<-HG.out 0 (by simp[HN.out])];rfl,HF1.out⟩
 by_cases h4:k=4
 .subst h4;go_enter func60,ntmps60;go_upto_region 1 with fail
  rw[HW1.out,HA.out];clear HW1 HA;go_wp2;go_ret;exact⟨by rw[<-HG.out lane (by simp)];rfl,HF1.out⟩
 by_cases h7:k=7
 .subst h7;go_enter func60,ntmps60;go_upto_region 1 with fail
  rw[HW1.out,HA.out];clear HW1 HA;go_wp2;go_ret;exact⟨by rw[<-HG.out lane (by simp)];rfl,HF1.out⟩
 by_cases h5:k=5
 .subst h5;go_enter func60,ntmps60;go_upto_region 1 with fail
  rw[HW1.out,HA.out];clear HW1 HA;go_wp2;go_ret;exact⟨by rw[<-HG.out (l+1+sh) (by simp)];rfl,HF1.out⟩
 by_cases h6:k=6
 .subst h6;go_enter func60,ntmps60;go_upto_region 1 with fail
  rw[HW1.out,HA.out];clear HW1 HA;go_wp2;go_ret;exact⟨by rw[<-HG.out (l+z+1) (by simp)];rfl,HF1.out⟩
 have k3:(k==3)=false:=by simp[h3]
 have k4:(k==4)=false:=by simp[h4]
 have k5:(k==5)=false:=by simp[h5]
 have k6:(k==6)=false:=by simp[h6]
 have k7:(k==7)=false:=by simp[h7]
 have HN:Hid (¬k=3/\¬k=4/\¬k=5/\¬k=6/\¬k=7):=⟨h3,h4,h5,h6,h7⟩;clear h3 h4 h5 h6 h7;go_enter func60,ntmps60;go_upto_region 1 with fail
 rw[HW1.out,HA.out];clear HW1 HA;go_wp2;go_ret;exact⟨by rw[<-HG.out 0 (by obtain⟨a,b,d,e,f⟩:=HN.out;simp[a,b,d,e,f])];rfl,HF1.out⟩
end
end Go.Proofs.YtojjdnjfaelnfaaGreatDoor
