/- Several texts in one: Places Vars. -/
import Derived.Test.YtebokjjeeedmjaaGHub39
import Derived.Deep.AppendLies
import Derived.Laws.OwnMore
import Derived.WalkSpells
import Derived.Deep.Onto
import Derived.StillTailTactics
import Derived.OwnWalk
import Derived.Test.YtebokjjeeedmjaaGHub0
import Derived.Test.YtebokjjeeedmjaaGHub1

/- What the draws of numbers return: any int, and a new row of twelve numbers from 0 to 9999; nothing that was there is written, but the cursor. -/
namespace Go.Proofs.Ytebokjjeeedmjaa.cur
open Go.ChangeShapes Go.WideShapes Go.ChangeAt Go.RowKit


theorem infoInt : (Try.prog.info? 3).map (fun i => (i.zero, i.size, i.bytes)) = some (some (.int .i64 0), 1, 8) := by kernel_rfl

def ints (L : List Int) : List Value := L.map (Value.int .i64)
/-- Twelve places in a new row. -/
def PlacesOut (w : World) (e : Ending) (w' : World) : Prop :=
  ∃ (v : Value) (L : List Int), e = .returned v ∧ L.length = 12 ∧ Hid (∀ x ∈ L, 0 ≤ x ∧ x < 10000) ∧ w'.ownsRow w.heap.size 3 1 v 12 (ints L) ∧ Below w.heap.size w w'

theorem own_atI {w : World} {base : Nat} {v : Value} {n : Nat} {L : List Int} (h : w.ownsRow base 3 1 v n (ints L)) {k : Nat} (hk : k < n) :
    ∃ (g cap : Nat), v = .slice (some ⟨g, 0, none⟩) n cap ∧ base ≤ g ∧ g < w.heap.size ∧ ∃ x : Int, L[k]? = some x ∧ w.cell? ⟨g, k, none⟩ = some (.int .i64 x) := by
  have hl : L.length = n := by have := h.1; simp [ints] at this; omega
  obtain ⟨g, c, hv, hb, hg⟩ := h.form (by omega)
  subst hv
  have hk' : k < L.length := by omega
  refine ⟨g, c, rfl, hb, hg, L[k], by simp [hk'], ?_⟩
  rw [h.cellAt k (by omega)]; simp [ints, hk']

end Go.Proofs.Ytebokjjeeedmjaa.cur

/- What the draw of valid variables returns: a new row of eight values; nothing that was there is written, but the cursor. -/
namespace Go.Proofs.Ytebokjjeeedmjaa.cur
open Go.ChangeShapes Go.WideShapes Go.ChangeAt Go.RowKit Go.Proofs.Ytebokjjeeedmjaa.row Go.Proofs.Ytebokjjeeedmjaa.val

/-- A drawn number with a property; the cursor stays one; of the blocks that were there its own alone is touched. -/
def PickOut (P : Int → Prop) (cb : Nat) (a : Option Addr) (len cap : Nat) (w : World) (e : Ending) (w' : World) : Prop :=
  ∃ x : Int, e = .returned (.int .i64 x) ∧ P x ∧ Cur cb a len cap w' ∧ w.grownBy w' (some cb)
def NumsP (P : Int → Prop) (lb n : Nat) (w : World) : Prop := ∀ i : Nat, i < n → ∃ v : Int, w.cell? ⟨lb, i, none⟩ = some (.int .i64 v) ∧ P v
theorem numsP_alloc (P : Int → Prop) (w : World) (L : List Int) (t : TypeId) (hw : ∀ v ∈ L, P v) : NumsP P w.heap.size L.length (w.alloc (.cells (L.map (Value.int .i64)).toArray t)) := by
  intro i hi
  refine ⟨L[i], ?_, hw _ (List.getElem_mem hi)⟩
  have h : (w.alloc (.cells (L.map (Value.int .i64)).toArray t)).heap[w.heap.size]? = some (.cells (L.map (Value.int .i64)).toArray t (0, 0)) := Array.getElem?_push_size
  rw [cell_of_row _ _ i _ _ _ h]
  simp [hi]
set_option maxRecDepth 100000 in
theorem pickP_from (P : Int → Prop) (w0 : World) (cb : Nat) (a : Option Addr) (len cap : Nat) (lb n : Nat) (hn : 0 < n) (hnm : (n : Int) ≤ 1048576) (w : World) (hc : Cur cb a len cap w) (hg : w0.grownBy w (some cb)) (hL : NumsP P lb n w) (hne : lb ≠ cb) :
    Calls Try.prog 87 #[.pointer (some ⟨cb, 0, none⟩), .slice (some ⟨lb, 0, none⟩) n n] w (PickOut P cb a len cap w0) := by
  have HL : Hid (∀ w' : World, w.grownBy w' (some cb) → NumsP P lb n w') := fun w' hg i hi => by
    obtain ⟨v, hv, hw⟩ := hL i hi
    exact ⟨v, hg.cell hv (by simpa using hne), hw⟩
  clear hL
  go_enter Try.func87, Try.ntmps87
  go_wp2_with (go_at_call 47; refine (below_any cb a len cap n (by omega) _ hc).mono ?_; rintro e w1 ⟨x, rfl, hx0, hx1, hc1, hg1⟩; obtain ⟨v, hv, hwf⟩ := HL.out w1 hg1 x.toNat (by omega))
  go_ret
  exact ⟨v, rfl, hwf, hc1, grownBy_trans hg hg1⟩

/-- Eight values in a new row; the cursor stays one. -/
def VarsOut (cb : Nat) (a : Option Addr) (len cap : Nat) (w : World) (e : Ending) (w' : World) : Prop :=
  ∃ (ad : Option Addr) (c : Nat) (L : List Int), e = .returned (.slice ad 8 c) ∧ Hid (L.length = 8) ∧ Hid (∀ x ∈ L, isVal x = true) ∧ w'.ownsRow w.heap.size 3 1 (.slice ad 8 c) 8 (ivs L) ∧ Cur cb a len cap w' ∧ w.grownBy w' (some cb)
theorem six_vals (z : Int) (h0 : 0 ≤ z) (h1 : z < 2000) : ∀ v ∈ [0, 1, 2, 5, z - 1000, 1000000], isVal v = true := by
  intro v hv
  simp only [List.mem_cons, List.not_mem_nil, or_false] at hv
  rw [isVal_iff]
  omega

end Go.Proofs.Ytebokjjeeedmjaa.cur
