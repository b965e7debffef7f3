/- Contracts and lemmas. -/
import Derived.Test.YtaigdcmoecgabaaGreatGp14
set_option linter.unusedVariables false
namespace Go.Proofs.YtaigdcmoecgabaaGreat.O
theorem zik{vs:List Vn}{y:Vn}(h:y∈vs):∃j,j<vs.length/\vs.getD j Vn.zero=y:=by
 obtain⟨j,hj,e⟩:=List.mem_iff_getElem.1 h;exact⟨j,hj,by simp[List.getD,hj,e]⟩
theorem zld{vs:List Vn}{v:Vn}{d:Nat}(hR:Ris vs)(hU:UpTo vs v.num d):zfi vs v d↔ ∃y∈vs,y.num=v.num:=by
 constructor
 .rintro⟨h0,h1⟩;exact⟨_,zco vs (d-1) (by have:=hU.le;omega),h1⟩
 rintro⟨y,hy,e⟩;obtain⟨j,hj,rfl⟩:=zik hy;have hjd:j<d:=by
  by_cases h:j<d
  .exact h
  have:=hU.hi j (by omega) hj;omega
 refine⟨by omega,?_⟩;by_cases hjd1:j=d-1
 .rw[<-hjd1];exact e
 have h1:=zgg hR (show j<d-1 by omega) (by have:=hU.le;omega);have h2:=hU.lo (d-1) (by omega);omega
theorem zpq{vs:List Vn}{v:Vn}{d:Nat}(x:Vn):x∈vs.take d++[v]++vs.drop d↔x=v\/x∈vs:=by
 have e:vs=vs.take d++vs.drop d:=(List.take_append_drop d vs).symm;have:x∈vs↔x∈vs.take d\/x∈vs.drop d:=by
  constructor
  .intro h;rw[e]at h;exact List.mem_append.1 h
  intro h;rw[e];exact List.mem_append.2 h
 rw[this];simp only[List.mem_append,List.mem_singleton];constructor
 .rintro ((h|h)|h)
  .exact Or.inr (Or.inl h)
  .exact Or.inl h
  exact Or.inr (Or.inr h)
 rintro (h|h|h)
 .exact Or.inl (Or.inr h)
 .exact Or.inl (Or.inl h)
 exact Or.inr h
theorem zzg{vs:List Vn}{v:Vn}{d:Nat}(hd:d<=vs.length):(vs.take d++[v]++vs.drop d).length=vs.length+1:=by
 simp only[List.length_append,List.length_take,List.length_drop,List.length_singleton];omega
theorem zzh{vs:List Vn}{v:Vn}{d:Nat}(h:okV vs)(hv:okX v)(hU:UpTo vs v.num d)(hT:¬zfi vs v d):okV (vs.take d++[v]++vs.drop d):=by
 refine⟨fun x hx=> ?_,?_⟩
 .rcases (zpq x).1 hx with rfl|hx
  .exact hv
  exact h.1 x hx
 have hlo:∀x∈vs.take d,x.num<v.num:=by
  intro x hx;obtain⟨j,hj,e⟩:=zik hx;have hj2:j<d/\j<vs.length:=by simp at hj;omega
  have e2:(vs.take d).getD j Vn.zero=vs.getD j Vn.zero:=by simp[List.getD,List.getElem?_take_of_lt hj2.1]
  rw[e2]at e
  have h1:=hU.lo j hj2.1;rw[e]at h1
  by_cases h2:x.num=v.num
  .exact absurd ((zld h.2 hU).2 ⟨x,List.mem_of_mem_take hx,h2⟩) hT
  omega
 have hhi:∀x∈vs.drop d,v.num<x.num:=by
  intro x hx;obtain⟨j,hj,e⟩:=zik hx;rw[zst]at e
  have:=hU.hi (d+j) (by omega) (by simp at hj;omega);rw[e]at this
  exact this
 have hs:Ris vs:=h.2;unfold Ris at hs ⊢;rw[List.append_assoc,List.pairwise_append];refine⟨hs.sublist (List.take_sublist _ _),?_,?_⟩
 .rw[List.singleton_append,List.pairwise_cons];exact⟨hhi,hs.sublist (List.drop_sublist _ _)⟩
 intro a ha b hb;rw[List.singleton_append,List.mem_cons]at hb
 rcases hb with rfl|hb
 .exact hlo a ha
 have:=hlo a ha;have:=hhi b hb;omega
end Go.Proofs.YtaigdcmoecgabaaGreat.O
