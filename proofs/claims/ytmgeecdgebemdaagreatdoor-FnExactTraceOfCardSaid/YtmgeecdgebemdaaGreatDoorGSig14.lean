/- Several texts in one: BlkN. -/
import Derived.Test.YtmgeecdgebemdaaGreatDoorGSig13

/- Chapter 5's program: LongestRun: how many statements run; nothing that was there is written. -/
namespace Go.Proofs.YtmgeecdgebemdaaGreatDoor.blk
open Go Go.ChangeShapes Go.WideShapes Go.ChangeAt Go.RowKit Go.Proofs.YtmgeecdgebemdaaGreatDoor.row Go.Proofs.YtmgeecdgebemdaaGreatDoor.val Go.Proofs.YtmgeecdgebemdaaGreatDoor.expr Go.Proofs.YtmgeecdgebemdaaGreatDoor.stm

def lenV : Value → Nat
  | .slice _ n _ => n
  | _ => 0
/-- 'x' statements have run, and 'M' is still to run. -/
def Rest (L M : List Go.Proofs.YtmgeecdgebemdaaGreatDoor.stm.St) (x : Int) : Prop := ∀ y, Runs M 0 M.length y → Runs L 0 L.length (x + y)
theorem Rest.start (L : List Go.Proofs.YtmgeecdgebemdaaGreatDoor.stm.St) : Rest L L 0 := fun y h => by rw [Int.zero_add]; exact h
theorem Rest.done {L : List Go.Proofs.YtmgeecdgebemdaaGreatDoor.stm.St} {x : Int} (h : Rest L [] x) : Runs L 0 L.length x := by
  have := h 0 (.nil 0)
  rw [Int.add_zero] at this; exact this
theorem Rest.small {L M : List Go.Proofs.YtmgeecdgebemdaaGreatDoor.stm.St} {x : Int} (h : Rest L M x) (hL : IsBlk L) (hM : IsBlk M) : x ≤ 3000 := by
  obtain ⟨y, hy⟩ := runs_ex hM M.length 0 M.length (by omega) (flat_all hM)
  have h1 := runs_small hL (h y hy) (Nat.le_refl _)
  have h2 := runs_small hM hy (Nat.le_refl _)
  omega
theorem Rest.one {L M : List Go.Proofs.YtmgeecdgebemdaaGreatDoor.stm.St} {x : Int} {n : Nat} {s : Go.Proofs.YtmgeecdgebemdaaGreatDoor.stm.St} (h : Rest L M x) (hb : IsBlk M) (hn : M.length = n) (hs : M[0]? = some s) (ho : opn s = false) :
    IsBlk (part M (0 + 1) (n - (0 + 1))) ∧ Rest L (part M (0 + 1) (n - (0 + 1))) (x + 1) := by
  subst hn
  have hlt := (List.getElem?_eq_some_iff.1 hs).1
  have h1 := hAt_succ hs
  rw [hAt_zero] at h1
  have h6 : s.k ≠ 6 := fun h6 => by
    rw [dlt_end h6] at h1
    have := (blk_bounds hb (0 + 1)).1; omega
  rw [dlt_flat ho h6] at h1
  refine ⟨rest_blk hb (by omega) (by omega), fun y hy => ?_⟩
  rw [Int.add_assoc]
  exact h _ (runs_flat (by omega) hs ho h6 hy)
theorem Rest.nest {L M : List Go.Proofs.YtmgeecdgebemdaaGreatDoor.stm.St} {x y : Int} {n e : Nat} {s : Go.Proofs.YtmgeecdgebemdaaGreatDoor.stm.St} (h : Rest L M x) (hb : IsBlk M) (hn : M.length = n) (hs : M[0]? = some s) (he : IsEnd M 0 e) (hy : Runs (part M 1 (e - 1)) 0 (part M 1 (e - 1)).length y) :
    IsBlk (part M (e + 1) (n - (e + 1))) ∧ Rest L (part M (e + 1) (n - (e + 1))) (x + max 1 s.n * y) := by
  subst hn
  have h1 := he.2.1
  refine ⟨rest_blk hb (by omega) (by rw [he.2.2.1, hAt_zero]), fun z hz => ?_⟩
  rw [Int.add_assoc]
  exact h _ (runs_nest hs he hy hz)
/-- The call returns how many statements of the block run. -/
abbrev RunOut (L : List Go.Proofs.YtmgeecdgebemdaaGreatDoor.stm.St) (w : World) := LongOut L 0 L.length w
end Go.Proofs.YtmgeecdgebemdaaGreatDoor.blk
