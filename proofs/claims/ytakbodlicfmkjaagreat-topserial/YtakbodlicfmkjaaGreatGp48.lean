/- Contracts and lemmas. -/
import Derived.Test.YtakbodlicfmkjaaGreatGp36
import Derived.Test.YtakbodlicfmkjaaGreatGp14
set_option linter.unusedVariables false
namespace Go.Proofs.YtakbodlicfmkjaaGreat.Fo
def Inc(ps:List Pr):Prop:=ps.Pairwise fun a b=>Op.bytesLess a.1.toList b.1.toList=true
structure Is(E:ByteArray->Option ByteArray)(ps:List Pr):Prop where
 inc:Inc ps
 mem:∀p,p∈ps↔E p.1=some p.2
theorem zmo{p:Pr}:¬Op.bytesLess p.1.toList p.1.toList=true:=by rw[zbw];simp
theorem zlx:∀{ps qs:List Pr},Inc ps->Inc qs->(∀p,p∈ps↔p∈qs)->ps=qs
 | [],[],_,_,_=>rfl
 | [],q::qs,_,_,h=>absurd ((h q).2 (by simp)) (by simp)
 |p::ps,[],_,_,h=>absurd ((h p).1 (by simp)) (by simp)
 |p::ps,q::qs,h1,h2,h=>by
  unfold Inc at h1 h2;rw[List.pairwise_cons]at h1 h2
  have hpq:p=q:=by
   have m1:=(h p).1 (by simp);have m2:=(h q).2 (by simp);rcases List.mem_cons.1 m1 with e|e
   .exact e
   rcases List.mem_cons.1 m2 with e'|e'
   .exact e'.symm
   have a:=h2.1 p e;have b:=h1.1 q e';exact absurd (zee a b) zmo
  subst hpq
  congr 1
  refine zlx h1.2 h2.2 fun x=>⟨fun hx=> ?_,fun hx=> ?_⟩
  .rcases List.mem_cons.1 ((h x).1 (List.mem_cons_of_mem _ hx)) with e|e
   .subst e;exact absurd (h1.1 x hx) zmo
   exact e
  rcases List.mem_cons.1 ((h x).2 (List.mem_cons_of_mem _ hx)) with e|e
  .subst e;exact absurd (h2.1 x hx) zmo
  exact e
theorem Is.unique{E:ByteArray->Option ByteArray}{ps qs:List Pr}(h1:Is E ps)(h2:Is E qs):ps=qs:=
 zlx h1.inc h2.inc fun p=>(h1.mem p).trans (h2.mem p).symm
theorem Is.nil:Is (fun _=>none) []:=⟨List.Pairwise.nil,fun p=>by simp⟩
theorem Is.cong{E E':ByteArray->Option ByteArray}{ps:List Pr}(h:Is E ps)(e:∀s,E s=E' s):Is E' ps:=⟨h.inc,fun p=>by rw[<-e];exact h.mem p⟩
theorem is_sorted{E:ByteArray->Option ByteArray}{ps ds:List Pr}(h:AllP E ps)(hp:ds.Perm ps)(hs:ds.Pairwise fun a b=>Op.bytesLess b.1.toList a.1.toList=false):Is E ds:=by
 refine⟨?_,fun p=>by rw[<-h.mem p];exact hp.mem_iff⟩;have hn:(ds.map (·.1)).Nodup:=(hp.map (·.1)).nodup_iff.2 h.nd;have hn2:=List.pairwise_map.1 hn;unfold Inc;have:=hs.and hn2;refine this.imp ?_;rintro a b⟨h1,h2⟩;cases hab:Op.bytesLess a.1.toList b.1.toList with
 |true=>rfl
 |false=>
  exfalso;have e:=znq hab h1;rw[ByteArray.toList_eq,ByteArray.toList_eq]at e
  exact h2 (zbs e)
def wrote(ps:List Pr)(x:Wt):List Pr:=ps.filter (fun p=>Op.bytesLess p.1.toList x.key.toList)++(if x.drop=true then [] else [(x.key,x.val)])++ps.filter (fun p=>Op.bytesLess x.key.toList p.1.toList)
theorem Is.write{E:ByteArray->Option ByteArray}{ps:List Pr}(h:Is E ps)(x:Wt):Is (applyE E x) (wrote ps x):=by
 refine⟨?_,fun p=> ?_⟩
 .unfold Inc wrote;have hi:ps.Pairwise fun a b=>Op.bytesLess a.1.toList b.1.toList=true:=h.inc;rw[List.pairwise_append,List.pairwise_append];refine⟨⟨List.Pairwise.filter _ hi,?_,?_⟩,List.Pairwise.filter _ hi,?_⟩
  .by_cases hd:x.drop=true<;>simp[hd]
  .intro a ha b hb;by_cases hd:x.drop=true
   .simp[hd]at hb
   simp[hd]at hb
   subst hb;exact (List.mem_filter.1 ha).2
  intro a ha b hb;have hb':=(List.mem_filter.1 hb).2;rcases List.mem_append.1 ha with ha|ha
  .exact zee (List.mem_filter.1 ha).2 hb'
  by_cases hd:x.drop=true
  .simp[hd]at ha
  simp[hd]at ha
  subst ha;exact hb'
 unfold wrote applyE;rw[List.mem_append,List.mem_append,List.mem_filter,List.mem_filter,h.mem p];by_cases hk:p.1=x.key
 .rw[if_pos hk,hk,zbw];by_cases hd:x.drop=true
  .simp[hd]
  simp[hd];constructor
  .rintro rfl;rfl
  intro e;exact Prod.ext hk e.symm
 rw[if_neg hk];have hne:¬p=(x.key,x.val):=fun e=>hk (by rw[e]);have hm:¬p∈(if x.drop=true then [] else [(x.key,x.val)]):=by
  by_cases hd:x.drop=true
  .simp[hd]
  simp[hd];exact hne
 constructor
 .rintro ((h1|h1)|h1)
  .exact h1.1
  .exact absurd h1 hm
  exact h1.1
 intro h1;cases hab:Op.bytesLess p.1.toList x.key.toList with
 |true=>exact Or.inl (Or.inl ⟨h1,rfl⟩)
 |false=>
  cases hba:Op.bytesLess x.key.toList p.1.toList with
  |true=>exact Or.inr ⟨h1,rfl⟩
  |false=>
   exfalso;have e:=znq hab hba;rw[ByteArray.toList_eq,ByteArray.toList_eq]at e
   exact hk (zbs e)
end Go.Proofs.YtakbodlicfmkjaaGreat.Fo
