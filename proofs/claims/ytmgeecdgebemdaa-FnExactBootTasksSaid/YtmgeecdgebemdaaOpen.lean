/- What a law's argument is made of, by its type: a struct of numbers is its fields. -/
import Derived.Test.YtmgeecdgebemdaaRows
import Derived.WalkKit
import Derived.ProofKit
import Derived.OpenShut
import Derived.Lib.SmallJoins
namespace Go.Proofs.Ytmgeecdgebemdaa.opn
open Go.ChangeShapes Go.WideShapes Go.ChangeAt Go.RowKit Go.Joins Go.Deep

end Go.Proofs.Ytmgeecdgebemdaa.opn
