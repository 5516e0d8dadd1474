/- Chapter 4's draws: expressions that need not be valid: the walk. -/
import Derived.Test.YtjglllpemhkkdaaGreatDoorZP6j
import Derived.Deep.RegionWith
import Derived.Deep.RegionLaw
import Derived.Maps.AppendAt
set_option maxRecDepth 100000
namespace Go.Proofs.YtjglllpemhkkdaaGreatDoor.Dr
open Go.RowKit Go.Lib Com Mem Cur YtjglllpemhkkdaaGreatDoor.Os Tr
end Go.Proofs.YtjglllpemhkkdaaGreatDoor.Dr
