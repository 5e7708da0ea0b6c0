/- A drawn block is valid: heights of a block that was built; the model's DrawBlock. -/
import Derived.Test.YtnpofcalghdaaaaDrawE
import Derived.Test.YtnpofcalghdaaaaStmR
import Derived.Test.YtnpofcalghdaaaaBlkB
namespace Go.Proofs.Ytnpofcalghdaaaa.blk
open Go Go.ChangeShapes Go.WideShapes Go.ChangeAt Go.RowKit Go.Proofs.Ytnpofcalghdaaaa.row Go.Proofs.Ytnpofcalghdaaaa.val Go.Proofs.Ytnpofcalghdaaaa.expr Go.Proofs.Ytnpofcalghdaaaa.stm Go.Proofs.Ytnpofcalghdaaaa.cur

abbrev T := Go.Proofs.Ytnpofcalghdaaaa.stm.St
theorem hAt_cons (s : T) (L : List T) (k : Nat) : hAt (s :: L) (k + 1) = dlt s + hAt L k := by unfold hAt ht; simp
theorem hAt_left {A : List T} (B : List T) {k : Nat} (h : k ≤ A.length) : hAt (A ++ B) k = hAt A k := by unfold hAt; rw [List.take_append_of_le_length h]
theorem hAt_right (A B : List T) (k : Nat) : hAt (A ++ B) (A.length + k) = hAt A A.length + hAt B k := by
  unfold hAt ht
  rw [List.take_length_add_append, List.take_of_length_le (Nat.le_refl A.length), List.map_append, List.sum_append]
theorem blk_flat {s : T} (h1 : 1 ≤ s.k) (h3 : s.k ≤ 3) : dlt s = 0 := by unfold dlt; rw [if_neg (by omega), if_neg (by omega)]
theorem blk_heights {d : Nat} {L : List T} (h : Blk d L) : hAt L L.length = 0 ∧ (∀ k, k ≤ L.length → 0 ≤ hAt L k ∧ hAt L k ≤ d) ∧ ∀ s ∈ L, stOk s = true := by
  induction h with
  | nil d => exact ⟨rfl, fun k hk => by rw [show hAt [] k = 0 by unfold hAt ht; simp]; omega, fun s hs => by simp at hs⟩
  | one d s rest hs h1 h3 hr ih =>
    obtain ⟨i1, i2, i3⟩ := ih
    have hd := blk_flat h1 h3
    refine ⟨by rw [List.length_cons, hAt_cons, hd, i1]; rfl, fun k hk => ?_, fun t ht => ?_⟩
    · cases k with
      | zero => rw [hAt_zero]; omega
      | succ k => rw [hAt_cons, hd]; have := i2 k (by simpa using hk); omega
    · rcases List.mem_cons.1 ht with rfl | ht
      · exact hs
      · exact i3 t ht
  | nest d s body rest hs hk hb hr ih1 ih2 =>
    obtain ⟨b1, b2, b3⟩ := ih1
    obtain ⟨r1, r2, r3⟩ := ih2
    have hd : dlt s = 1 := by unfold dlt; rw [if_pos hk]
    have he : dlt endSt = -1 := by decide
    have hin : ∀ k, hAt (body ++ endSt :: rest) (body.length + (k + 1)) = hAt rest k - 1 := fun k => by
      rw [hAt_right, b1, hAt_cons, he]; omega
    refine ⟨?_, fun k hk2 => ?_, fun t ht => ?_⟩
    · rw [List.length_cons, hAt_cons, hd, List.length_append, List.length_cons, hin, r1]; rfl
    · cases k with
      | zero => rw [hAt_zero]; omega
      | succ k =>
        rw [hAt_cons, hd]
        by_cases hkb : k ≤ body.length
        · rw [hAt_left _ hkb]; have := b2 k hkb; omega
        · obtain ⟨j, rfl⟩ : ∃ j, k = body.length + (j + 1) := ⟨k - body.length - 1, by omega⟩
          rw [hin]
          have := r2 j (by simp at hk2; omega)
          omega
    · rcases List.mem_cons.1 ht with rfl | ht
      · exact hs
      · rcases List.mem_append.1 ht with ht | ht
        · exact b3 t ht
        · rcases List.mem_cons.1 ht with rfl | ht
          · exact stOk_end
          · exact r3 t ht
theorem isBlk_of {d : Nat} {L : List T} (h : Blk d L) (hd : d ≤ 3) (hl : L.length ≤ 24) : IsBlk L := by
  obtain ⟨h1, h2, h3⟩ := blk_heights h
  exact ⟨fun j s hj hs => ⟨h3 s (List.mem_of_getElem? hs), (h2 (j + 1) hj).1, by have := (h2 (j + 1) hj).2; omega⟩, h1, hl⟩
/-- A valid block in new memory. -/
def DrawnB (w : World) (e : Ending) (w' : World) : Prop :=
  ∃ (g m c : Nat) (L : List T), e = .returned (.slice (some ⟨g, 0, none⟩) m c) ∧ Hid (IsBlk L) ∧ m ≤ 20 ∧ w'.ownsRow w.heap.size 94 6 (.slice (some ⟨g, 0, none⟩) m c) m (stsC L) ∧ Below w.heap.size w w'
end Go.Proofs.Ytnpofcalghdaaaa.blk
