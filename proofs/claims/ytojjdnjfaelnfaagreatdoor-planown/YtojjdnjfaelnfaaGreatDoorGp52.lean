/- Contracts and lemmas. -/
import Derived.Test.YtojjdnjfaelnfaaGreatDoorTie
import Derived.Test.YtojjdnjfaelnfaaGreatDoorCards
set_option maxHeartbeats 8000000
set_option maxRecDepth 100000
namespace Go.Proofs.YtojjdnjfaelnfaaGreatDoor.planOwn
open Go.Proofs.Tryz
theorem c_wf:Rows.planOwnRow.wfByText (OpenSpec.ofChange Rows.planOwnSpec)=true:=by kernel_rfl
theorem zajt:Tryz.pinned.checked.prog.mainIs=some (true, "ad5a98068c0b4af92b11a503bb92e7982bbbe57984eb2d03111f7e95381a17ac".toList):=by kernel_rfl
theorem zahl:true=Tryz.pinned.checked.prog.looks []:=by kernel_rfl
theorem zaju:false=Rows.planOwnRow.goesBy Tryz.pinned.checked.prog:=by kernel_rfl
theorem zajv(t:TypeId)(h:t=23\/t=24):Tryz.pinned.checked.prog.wantsStandIn t=false:=by rcases h with rfl|rfl<;>kernel_rfl
end Go.Proofs.YtojjdnjfaelnfaaGreatDoor.planOwn
