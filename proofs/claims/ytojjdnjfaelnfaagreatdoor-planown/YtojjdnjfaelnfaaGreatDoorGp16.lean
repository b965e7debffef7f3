/- Contracts and lemmas. -/
import Derived.Test.YtojjdnjfaelnfaaGreatDoorGp13
set_option maxHeartbeats 16000000
set_option maxRecDepth 100000
set_option linter.unusedSimpArgs false
set_option linter.unusedVariables false
namespace Go.Proofs.YtojjdnjfaelnfaaGreatDoor.O
open Go.ChangeShapes Go.WideShapes Go.ChangeAt Go.RowKit Go.Lib Go.Proofs.Tryz
theorem VOut.blk{w0 w:World}{ro:Option Addr}{N rc:Nat}{qs:List Vn}(h:VOut w0 w ro N rc qs):∀k∈(Value.slice ro N rc).ownBlock.toList,w0.heap.size<=k/\∃cur,w.heap[k]? = some (.cells cur 103 (0,0)):=by
 intro k hk;obtain⟨rf,_,hown⟩:=h.own;rcases hown.2 with⟨hv,_⟩|⟨g,cap,cur,hv,hb,hg,_⟩
 .cases hv;simp[Value.ownBlock]at hk
 cases hv;simp[Value.ownBlock]at hk
 subst hk;exact⟨hb,cur,hg⟩
theorem VOut.keepS{S:List Nat}{w0 w w':World}{ro:Option Addr}{N rc:Nat}{qs:List Vn}(h:VOut w0 w ro N rc qs)(hf:Fr S w w')(hn:∀k∈(Value.slice ro N rc).ownBlock.toList,k∉S):VOut w0 w' ro N rc qs:=by
 obtain⟨rf,hr,hown⟩:=h.own;refine⟨⟨rf,hr,hown.1,?_⟩,h.len,h.cap⟩;rcases hown.2 with hh|⟨g,cap,cur,hv,hb,hg,rest⟩
 .exact .inl hh
 cases hv;exact .inr ⟨g,rf,cur,rfl,hb,hf.keep hg (hn g (by simp[Value.ownBlock])),rest⟩
end Go.Proofs.YtojjdnjfaelnfaaGreatDoor.O
