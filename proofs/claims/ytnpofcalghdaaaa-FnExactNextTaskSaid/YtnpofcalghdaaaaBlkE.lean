/- Chapter 5's model: what opens, the matching end, EndOf, DepthOf: what the plain relations say; nothing that was there is written. -/
import Derived.Test.YtnpofcalghdaaaaBlkS
namespace Go.Proofs.Ytnpofcalghdaaaa.blk
open Go Go.ChangeShapes Go.WideShapes Go.ChangeAt Go.RowKit Go.Proofs.Ytnpofcalghdaaaa.row Go.Proofs.Ytnpofcalghdaaaa.val Go.Proofs.Ytnpofcalghdaaaa.expr Go.Proofs.Ytnpofcalghdaaaa.stm

theorem endIs_not {L : List Go.Proofs.Ytnpofcalghdaaaa.stm.St} {i x : Int} (h : EndIs L i x) (hn : ¬ IsBlk L ∨ i < 0 ∨ (L.length : Int) ≤ i) : x = -1 := by
  rcases h with ⟨j, e, rfl, hb, he, rfl⟩ | ⟨rfl, _⟩
  · rcases hn with hn | hn | hn
    · exact absurd hb hn
    · omega
    · have := he.1; have := he.2.1; omega
  · rfl
theorem endIs_flat {L : List Go.Proofs.Ytnpofcalghdaaaa.stm.St} {j : Nat} {x : Int} {s : Go.Proofs.Ytnpofcalghdaaaa.stm.St} (h : EndIs L j x) (hs : L[j]? = some s) (ho : opn s = false) : x = -1 := by
  rcases h with ⟨j', e, hj, hb, he, rfl⟩ | ⟨rfl, _⟩
  · obtain rfl : j = j' := by omega
    obtain ⟨t, ht, hot⟩ := he.opens
    rw [hs] at ht; cases ht; rw [ho] at hot; cases hot
  · rfl
theorem endIs_yes {L : List Go.Proofs.Ytnpofcalghdaaaa.stm.St} {j e : Nat} {x : Int} (h : EndIs L j x) (hb : IsBlk L) (he : IsEnd L j e) : x = e := h.unique (.inl ⟨j, e, rfl, hb, he, rfl⟩)
end Go.Proofs.Ytnpofcalghdaaaa.blk
