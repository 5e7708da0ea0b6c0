/- Chapter 5's program: DepthOf: the height ahead of the statement; nothing that was there is written. -/
import Derived.Test.YtekeonenbhmejaaBlkG
import Derived.Test.YtekeonenbhmejaaBlkD
import Derived.Test.YtekeonenbhmejaaBlkC
namespace Go.Proofs.Ytekeonenbhmejaa.blk
open Go Go.ChangeShapes Go.WideShapes Go.ChangeAt Go.RowKit Go.Proofs.Ytekeonenbhmejaa.row Go.Proofs.Ytekeonenbhmejaa.val Go.Proofs.Ytekeonenbhmejaa.expr Go.Proofs.Ytekeonenbhmejaa.stm

end Go.Proofs.Ytekeonenbhmejaa.blk
