/- Parsing a program, said by recursion. -/
import Derived.Test.YtjglllpemhkkdaaGreatDoorZPz
import Derived.Test.YtjglllpemhkkdaaGreatDoorZS8a
set_option maxRecDepth 100000
namespace Go.Proofs.YtjglllpemhkkdaaGreatDoor.Gd
open Go.RowKit Go.Lib Num Com Mem YtjglllpemhkkdaaGreatDoor.Os Tr Tk

end Go.Proofs.YtjglllpemhkkdaaGreatDoor.Gd
