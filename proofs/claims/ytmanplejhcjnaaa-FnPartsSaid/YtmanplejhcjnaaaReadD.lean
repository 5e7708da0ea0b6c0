/- Chapter 3's ReadsOf of the program: the same numbers as the model's, in new memory; nothing that was there is written. -/
import Derived.Test.YtmanplejhcjnaaaReadB
import Derived.Test.YtmanplejhcjnaaaReadC
import Derived.Test.YtmanplejhcjnaaaEvalB
import Derived.Laws.Rows
import Derived.Maps.AppendAt
namespace Go.Proofs.Ytmanplejhcjnaaa.expr
open Go.ChangeShapes Go.WideShapes Go.ChangeAt Go.RowKit Go.Proofs.Ytmanplejhcjnaaa.row Go.Proofs.Ytmanplejhcjnaaa.val

theorem vk_step0 (a b : Int) : (vk a ++ vk b) = vk a ++ vk b := rfl
/-- What has been collected after 'k' operands. -/
def got (a b : Int) (k : Nat) : List Int := if k = 0 then [] else if k = 1 then vk a else vk a ++ vk b
theorem got_len (a b : Int) (k : Nat) : (got a b k).length ≤ k := by
  have h : ∀ x, (vk x).length ≤ 1 := fun x => by unfold vk; split <;> simp
  have := h a; have := h b
  unfold got; split
  · simp
  · split
    · omega
    · rw [List.length_append]; omega
theorem got_yes {a b : Int} {k : Nat} (hk : k < 2) {x : Int} (hx : x = if k = 0 then a else b) (h : x < 0) : got a b (k + 1) = got a b k ++ [-1 - x] := by
  rcases (show k = 0 ∨ k = 1 by omega) with rfl | rfl
  · simp at hx; subst hx; simp [got, vk_neg h]
  · simp at hx; subst hx; simp [got, vk_neg h]
theorem got_no {a b : Int} {k : Nat} (hk : k < 2) {x : Int} (hx : x = if k = 0 then a else b) (h : ¬ x < 0) : got a b (k + 1) = got a b k := by
  rcases (show k = 0 ∨ k = 1 by omega) with rfl | rfl
  · simp at hx; subst hx; simp [got, vk_pos h]
  · simp at hx; subst hx; simp [got, vk_pos h]


end Go.Proofs.Ytmanplejhcjnaaa.expr
