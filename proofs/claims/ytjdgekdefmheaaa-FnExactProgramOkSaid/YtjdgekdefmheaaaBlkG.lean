/- Chapter 5's program: the matching end, whether a block has a place, EndOf: what the plain relations say; nothing that was there is written. -/
import Derived.Test.YtjdgekdefmheaaaBlkF
namespace Go.Proofs.Ytjdgekdefmheaaa.blk
open Go Go.ChangeShapes Go.WideShapes Go.ChangeAt Go.RowKit Go.Proofs.Ytjdgekdefmheaaa.row Go.Proofs.Ytjdgekdefmheaaa.val Go.Proofs.Ytjdgekdefmheaaa.expr Go.Proofs.Ytjdgekdefmheaaa.stm

end Go.Proofs.Ytjdgekdefmheaaa.blk
