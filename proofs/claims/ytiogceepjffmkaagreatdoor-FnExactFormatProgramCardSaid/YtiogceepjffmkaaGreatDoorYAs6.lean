/- errors.As at the program's own type of syntax errors: an error of that type is found; another one of errors.New's make is not. -/
import Derived.Test.YtiogceepjffmkaaGreatDoorProg
import Derived.LaidEql
import Derived.Stop.Asserts
import Derived.RowKitTokens
import Derived.Test.YtiogceepjffmkaaGreatDoorYCom
set_option maxRecDepth 100000
namespace Go.Proofs.YtiogceepjffmkaaGreatDoor.As
open Go.RowKit Go.Extern.Stop Go.Stop Go.Extern
abbrev HB : Nat := 6
abbrev ERR : TypeId := 93
open Go.Lib Com Mem
end Go.Proofs.YtiogceepjffmkaaGreatDoor.As
