/- Chapter 5's program: DepthOf: the height ahead of the statement; nothing that was there is written. -/
import Derived.Test.YtjdgekdefmheaaaBlkG
import Derived.Test.YtjdgekdefmheaaaBlkD
import Derived.Test.YtjdgekdefmheaaaBlkC
namespace Go.Proofs.Ytjdgekdefmheaaa.blk
open Go Go.ChangeShapes Go.WideShapes Go.ChangeAt Go.RowKit Go.Proofs.Ytjdgekdefmheaaa.row Go.Proofs.Ytjdgekdefmheaaa.val Go.Proofs.Ytjdgekdefmheaaa.expr Go.Proofs.Ytjdgekdefmheaaa.stm

end Go.Proofs.Ytjdgekdefmheaaa.blk
