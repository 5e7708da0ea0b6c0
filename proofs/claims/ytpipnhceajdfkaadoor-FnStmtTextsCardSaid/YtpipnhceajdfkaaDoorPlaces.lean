/- What the draws of numbers return: any int, and a new row of twelve numbers from 0 to 9999; nothing that was there is written, but the cursor. -/
import Derived.Test.YtpipnhceajdfkaaDoorCur
import Derived.Deep.AppendLies
import Derived.Laws.OwnMore
import Derived.WalkSpells
import Derived.Deep.Onto
import Derived.StillTailTactics
import Derived.OwnWalk
namespace Go.Proofs.YtpipnhceajdfkaaDoor.cur
open Go.ChangeShapes Go.WideShapes Go.ChangeAt Go.RowKit


theorem infoInt : (Tryd.prog.info? 3).map (fun i => (i.zero, i.size, i.bytes)) = some (some (.int .i64 0), 1, 8) := by kernel_rfl

def ints (L : List Int) : List Value := L.map (Value.int .i64)
/-- Twelve places in a new row. -/
def PlacesOut (w : World) (e : Ending) (w' : World) : Prop :=
  ∃ (v : Value) (L : List Int), e = .returned v ∧ L.length = 12 ∧ Hid (∀ x ∈ L, 0 ≤ x ∧ x < 10000) ∧ w'.ownsRow w.heap.size 3 1 v 12 (ints L) ∧ Below w.heap.size w w'

theorem own_atI {w : World} {base : Nat} {v : Value} {n : Nat} {L : List Int} (h : w.ownsRow base 3 1 v n (ints L)) {k : Nat} (hk : k < n) :
    ∃ (g cap : Nat), v = .slice (some ⟨g, 0, none⟩) n cap ∧ base ≤ g ∧ g < w.heap.size ∧ ∃ x : Int, L[k]? = some x ∧ w.cell? ⟨g, k, none⟩ = some (.int .i64 x) := by
  have hl : L.length = n := by have := h.1; simp [ints] at this; omega
  obtain ⟨g, c, hv, hb, hg⟩ := h.form (by omega)
  subst hv
  have hk' : k < L.length := by omega
  refine ⟨g, c, rfl, hb, hg, L[k], by simp [hk'], ?_⟩
  rw [h.cellAt k (by omega)]; simp [ints, hk']

end Go.Proofs.YtpipnhceajdfkaaDoor.cur
