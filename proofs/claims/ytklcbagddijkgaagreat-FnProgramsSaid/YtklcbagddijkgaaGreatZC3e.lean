/- Chapter 3: the model's ApplyOp and OpSymbol. -/
import Derived.Test.YtklcbagddijkgaaGreatZC3o
set_option maxRecDepth 100000
namespace Go.Proofs.YtklcbagddijkgaaGreat.C3
open Go.RowKit Go.Lib Go.Sort Go.Proofs.YtklcbagddijkgaaGreat.Com Go.Proofs.YtklcbagddijkgaaGreat.Mem
end Go.Proofs.YtklcbagddijkgaaGreat.C3
