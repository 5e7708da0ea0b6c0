/- What the draw of valid variables returns: a new row of eight values; nothing that was there is written, but the cursor. -/
import Derived.Test.YtpipnhceajdfkaaDoorPlaces
import Derived.Test.YtpipnhceajdfkaaDoorInts
import Derived.Test.YtpipnhceajdfkaaDoorVal
namespace Go.Proofs.YtpipnhceajdfkaaDoor.cur
open Go.ChangeShapes Go.WideShapes Go.ChangeAt Go.RowKit Go.Proofs.YtpipnhceajdfkaaDoor.row Go.Proofs.YtpipnhceajdfkaaDoor.val

/-- A drawn number with a property; the cursor stays one; of the blocks that were there its own alone is touched. -/
def PickOut (P : Int → Prop) (cb : Nat) (a : Option Addr) (len cap : Nat) (w : World) (e : Ending) (w' : World) : Prop :=
  ∃ x : Int, e = .returned (.int .i64 x) ∧ P x ∧ Cur cb a len cap w' ∧ w.grownBy w' (some cb)
def NumsP (P : Int → Prop) (lb n : Nat) (w : World) : Prop := ∀ i : Nat, i < n → ∃ v : Int, w.cell? ⟨lb, i, none⟩ = some (.int .i64 v) ∧ P v
theorem numsP_alloc (P : Int → Prop) (w : World) (L : List Int) (t : TypeId) (hw : ∀ v ∈ L, P v) : NumsP P w.heap.size L.length (w.alloc (.cells (L.map (Value.int .i64)).toArray t)) := by
  intro i hi
  refine ⟨L[i], ?_, hw _ (List.getElem_mem hi)⟩
  have h : (w.alloc (.cells (L.map (Value.int .i64)).toArray t)).heap[w.heap.size]? = some (.cells (L.map (Value.int .i64)).toArray t (0, 0)) := Array.getElem?_push_size
  rw [cell_of_row _ _ i _ _ _ h]
  simp [hi]
set_option maxRecDepth 100000 in
theorem pickP_from (P : Int → Prop) (w0 : World) (cb : Nat) (a : Option Addr) (len cap : Nat) (lb n : Nat) (hn : 0 < n) (hnm : (n : Int) ≤ 1048576) (w : World) (hc : Cur cb a len cap w) (hg : w0.grownBy w (some cb)) (hL : NumsP P lb n w) (hne : lb ≠ cb) :
    Calls Tryd.prog 64 #[.pointer (some ⟨cb, 0, none⟩), .slice (some ⟨lb, 0, none⟩) n n] w (PickOut P cb a len cap w0) := by
  have HL : Hid (∀ w' : World, w.grownBy w' (some cb) → NumsP P lb n w') := fun w' hg i hi => by
    obtain ⟨v, hv, hw⟩ := hL i hi
    exact ⟨v, hg.cell hv (by simpa using hne), hw⟩
  clear hL
  go_enter Tryd.func64, Tryd.ntmps64
  go_wp2_with (go_at_call 22; refine (below_any cb a len cap n (by omega) _ hc).mono ?_; rintro e w1 ⟨x, rfl, hx0, hx1, hc1, hg1⟩; obtain ⟨v, hv, hwf⟩ := HL.out w1 hg1 x.toNat (by omega))
  go_ret
  exact ⟨v, rfl, hwf, hc1, grownBy_trans hg hg1⟩

/-- Eight values in a new row; the cursor stays one. -/
def VarsOut (cb : Nat) (a : Option Addr) (len cap : Nat) (w : World) (e : Ending) (w' : World) : Prop :=
  ∃ (ad : Option Addr) (c : Nat) (L : List Int), e = .returned (.slice ad 8 c) ∧ Hid (L.length = 8) ∧ Hid (∀ x ∈ L, isVal x = true) ∧ w'.ownsRow w.heap.size 3 1 (.slice ad 8 c) 8 (ivs L) ∧ Cur cb a len cap w' ∧ w.grownBy w' (some cb)
theorem six_vals (z : Int) (h0 : 0 ≤ z) (h1 : z < 2000) : ∀ v ∈ [0, 1, 2, 5, z - 1000, 1000000], isVal v = true := by
  intro v hv
  simp only [List.mem_cons, List.not_mem_nil, or_false] at hv
  rw [isVal_iff]
  omega

end Go.Proofs.YtpipnhceajdfkaaDoor.cur
