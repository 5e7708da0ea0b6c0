/- Chapter 5's program: DepthOf: the height ahead of the statement; nothing that was there is written. -/
import Derived.Test.YtnpofcalghdaaaaBlkG
import Derived.Test.YtnpofcalghdaaaaBlkD
import Derived.Test.YtnpofcalghdaaaaBlkC
namespace Go.Proofs.Ytnpofcalghdaaaa.blk
open Go Go.ChangeShapes Go.WideShapes Go.ChangeAt Go.RowKit Go.Proofs.Ytnpofcalghdaaaa.row Go.Proofs.Ytnpofcalghdaaaa.val Go.Proofs.Ytnpofcalghdaaaa.expr Go.Proofs.Ytnpofcalghdaaaa.stm

end Go.Proofs.Ytnpofcalghdaaaa.blk
