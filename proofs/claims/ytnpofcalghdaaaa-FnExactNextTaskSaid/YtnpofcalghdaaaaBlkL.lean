/- Chapter 5's model: LongestRun: how many statements run; nothing that was there is written. -/
import Derived.Test.YtnpofcalghdaaaaBlkE
import Derived.IntWalk
namespace Go.Proofs.Ytnpofcalghdaaaa.blk
open Go Go.ChangeShapes Go.WideShapes Go.ChangeAt Go.RowKit Go.Proofs.Ytnpofcalghdaaaa.row Go.Proofs.Ytnpofcalghdaaaa.val Go.Proofs.Ytnpofcalghdaaaa.expr Go.Proofs.Ytnpofcalghdaaaa.stm

/-- The call returns how many statements run between these places. -/
def LongOut (L : List Go.Proofs.Ytnpofcalghdaaaa.stm.St) (a b : Nat) (w : World) (e : Ending) (w' : World) : Prop := ∃ x : Int, e = .returned (.int .i64 x) ∧ Hid (Runs L a b x) ∧ Below w.heap.size w w'
theorem times_ok {n y : Int} (hn : n ≤ 5) (h0 : 0 ≤ y) (h1 : y ≤ 3000) : 0 ≤ max 1 n * y ∧ max 1 n * y ≤ 15000 := by
  obtain ⟨m, hm⟩ : ∃ m, max 1 n = m := ⟨_, rfl⟩
  have hm1 : 1 ≤ m ∧ m ≤ 5 := by omega
  rw [hm]
  have h2 : 0 ≤ m * y := Int.mul_nonneg (by omega) h0
  have h3 : m * y ≤ 5 * y := Int.mul_le_mul_of_nonneg_right hm1.2 h0
  omega
theorem longIs_not {L : List Go.Proofs.Ytnpofcalghdaaaa.stm.St} {x : Int} (h : LongIs L x) (hn : ¬ IsBlk L) : x = -1 := h.unique (.inr ⟨rfl, hn⟩)
end Go.Proofs.Ytnpofcalghdaaaa.blk
