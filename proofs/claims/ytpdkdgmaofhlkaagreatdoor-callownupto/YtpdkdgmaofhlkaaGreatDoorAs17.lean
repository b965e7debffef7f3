/- Asks of a task that is not there. No conditions. -/
import Derived.Test.YtpdkdgmaofhlkaaGreatDoorRs17
import Derived.Test.YtpdkdgmaofhlkaaGreatDoorNz17
namespace Go.Proofs.YtpdkdgmaofhlkaaGreatDoor
open Go.ChangeShapes Go.WideShapes Go.ChangeAt Go.RowKit Go.Lib
set_option linter.unusedVariables false
set_option linter.unusedSimpArgs false

def Aj.v (a : Aj) : Array Value := #[.int .u8 a.k, .int .i64 a.ma, .int .i64 a.le, .slice a.bo a.bl a.bc, .int .i64 a.r.to_, .bool a.r.ok, .slice a.r.eo a.r.el a.r.ec, .slice a.r.ho a.r.hl a.r.hc, .int .i64 a.r.ct]