/- Contracts and plain lemmas of this claim. -/
import Derived.Test.YtaaghcimfcjehaaGreatDoorGp43
set_option linter.unusedSimpArgs false
set_option linter.unusedVariables false
namespace Go.Proofs.YtaaghcimfcjehaaGreatDoor
def Lw (c:Cf) (s:Sy):Prop:= ∀i,c.l.toNat<=i->s.num i=0
theorem Lw.stp {c:Cf} {T:List Tx} {s:Sy} (h:Lw c s) (e:Ev):Lw c (stp c T s e).2:=by
 unfold Go.Proofs.YtaaghcimfcjehaaGreatDoor.stp
 split
 ·unfold cal
  split
  ·exact h
  ·split
   ·exact h
   ·split
    ·exact h
    ·split
     ·exact h
     ·exact h
 ·split
  ·unfold dsp
   split
   ·split
    ·exact h
    ·exact h
   ·split
    ·exact h
    ·split
     ·exact h
     ·exact h
  ·split
   ·next h2 h3 =>
    have hi:(e.t-1).toNat<c.l.toNat:=by omega
    unfold lan
    split
    ·split
     ·exact h
     ·intro i hi2
      show upd s.num _ _ i=0
      rw[zaa _ _ (by omega)]
      exact h i hi2
    ·split
     ·split
      ·exact h
      ·exact h
     ·split
      ·intro i hi2
       show upd s.num _ _ i=0
       rw[zaa _ _ (by omega)]
       exact h i hi2
      ·exact h
   ·split
    ·unfold own
     split
     ·exact h
     ·exact h
    ·split
     ·unfold gat
      split
      ·exact h
      ·exact h
     ·exact h
theorem zzi {c:Cf} {ts:List Tm} {m0:Int} {xs:List Int} {s:Sy} {d:Ds} {P:List Int} {t k:Nat} (hR:Rl c (txs ts) m0 xs s d P t) (hI:Iv c (txs ts) s k) (hc:c.may) (hT:Lk (txs ts)) (hK:Kd d k) (hL:Lw c s) (hk:k<=4194304):DOk c ts xs d:=by
 have hlen:((txs ts).length:Int)=(ts.length:Int):=by rw[zap]
 obtain⟨kk,hv⟩:=hR.hv
 have hq16:=hc.2.2.2
 refine⟨hT,by rw[hR.at_];exact hI.low,fun h0=> ?_,by rw[hR.ma];exact⟨hR.gt.low,hR.gt.top⟩,fun h0 _ p hp=> ?_,?_,?_,fun n=> ?_,?_,fun j hj=> ?_,fun j hj q hq h0=> ?_,hK.mono (by omega),hR.cnd⟩
 ·have hh:=hR.held
  cases hb:s.holds with
  | false=>rw[hb,if_neg (by decide)]at hh;exact absurd hh h0
  | true =>
   rw[hb,if_pos rfl]at hh
   rw[hh]
   have h1:=hI.hold hb
   have h2:=hI.top
   omega
 ·have hh:=hR.held
  cases hb:s.holds with
  | false=>rw[hb,if_neg (by decide)]at hh;exact absurd hh h0
  | true =>
   rw[hb,if_pos rfl]at hh
   rw[hh]
   rw[hR.L]at hp
   exact (hI.old p hp).2 hb
 ·rw[hR.line]
  have:=hI.few0
  omega
 ·rw[hR.line]
  intro n hn
  have:=hI.line n hn
  omega
 ·rw[hR.L,hR.en]
  obtain⟨z1,z2⟩:=zfw s.L s.en n
  have hl:=hT.len
  refine Ris.few (n:=65536) (a:=1) z1 (fun x hx=> ?_)
  obtain⟨⟨⟨p,hp,rfl⟩,_⟩,_⟩:=z2 x hx
  have h1:=hv.ris.pos p hp
  have h2:=(hI.old p hp).1
  have h3:=hI.top
  omega
 ·rw[hR.gone]
  have:=hI.few1
  omega
 ·have h1:=hI.queue j hj
  have h2:=congrArg List.length (hR.que j hj)
  simp only[List.length_map]at h2
  omega
 ·have h16:j<16:=by have:=hc.2.1.2;omega
  obtain⟨h1,h2,h3⟩:=(hR.qua j h16 q hq).1 h0
  apply Classical.byContradiction
  intro hn
  have:=hL (q.1-1).toNat (by omega)
  omega
theorem zxz (m:Int) (xs:List Int):Kd (ds0 m xs) 0:=⟨Nat.le_refl _,fun x hx=>(by cases hx),fun i=>Nat.le_refl _⟩
theorem zya (c:Cf) (m:Int) (xs:List Int):Lw c (sy0 m xs):=fun i _=>rfl
open Classical in
theorem zhr {c:Cf} {T:List Tx} {xs:List Int} {d:Ds} {e:Ev} {r:List Ev}:zcb c T xs d (e::r)=if CanD c T xs d e then zcb c T xs (nxtD c T xs d e).2 r+1 else 0:=rfl
end Go.Proofs.YtaaghcimfcjehaaGreatDoor
