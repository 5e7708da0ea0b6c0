/- What a law's argument is made of, by its type: a struct of numbers is its fields. -/
import Derived.Test.YtcmhiadaebpgmaaRows
import Derived.WalkKit
import Derived.ProofKit
import Derived.OpenShut
import Derived.Lib.SmallJoins
namespace Go.Proofs.Ytcmhiadaebpgmaa.opn
open Go.ChangeShapes Go.WideShapes Go.ChangeAt Go.RowKit Go.Joins Go.Deep

end Go.Proofs.Ytcmhiadaebpgmaa.opn
