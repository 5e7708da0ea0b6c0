/- Chapter 5's program: the matching end, whether a block has a place, EndOf: what the plain relations say; nothing that was there is written. -/
import Derived.Test.YtnpofcalghdaaaaBlkF
namespace Go.Proofs.Ytnpofcalghdaaaa.blk
open Go Go.ChangeShapes Go.WideShapes Go.ChangeAt Go.RowKit Go.Proofs.Ytnpofcalghdaaaa.row Go.Proofs.Ytnpofcalghdaaaa.val Go.Proofs.Ytnpofcalghdaaaa.expr Go.Proofs.Ytnpofcalghdaaaa.stm

end Go.Proofs.Ytnpofcalghdaaaa.blk
