/- The numbers of the variables that two operands name: found by a search from 0 on, or collected, sorted and made single: the same list. Plain mathematics; no condition but that the operands are valid. -/
import Derived.Lib.SlicesCompact
namespace Go.Proofs.Ytcmhiadaebpgmaa.expr

/-- The numbers below 'k' that one of the operands names. -/
def rd (a b : Int) (k : Nat) : List Int := ((List.range k).filter fun (j : Nat) => decide (a = -1 - (j : Int)) || decide (b = -1 - (j : Int))).map fun (j : Nat) => (j : Int)
theorem rd_zero (a b : Int) : rd a b 0 = [] := rfl
theorem rd_yes {a b : Int} {k : Nat} (h : a = -1 - (k : Int) ∨ b = -1 - (k : Int)) : rd a b (k + 1) = rd a b k ++ [(k : Int)] := by
  have hc : (decide (a = -1 - (k : Int)) || decide (b = -1 - (k : Int))) = true := by simpa using h
  simp [rd, List.range_succ, hc]
theorem rd_no {a b : Int} {k : Nat} (h : ¬ (a = -1 - (k : Int) ∨ b = -1 - (k : Int))) : rd a b (k + 1) = rd a b k := by
  have hc : (decide (a = -1 - (k : Int)) || decide (b = -1 - (k : Int))) = false := by simpa using h
  simp [rd, List.range_succ, hc]
theorem rd_len (a b : Int) (k : Nat) : (rd a b k).length ≤ k := by
  unfold rd; rw [List.length_map]; exact Nat.le_trans (List.length_filter_le _ _) (by simp)
theorem rd_b {a b : Int} (h : 0 ≤ b) (k : Nat) : rd a b k = rd a 0 k := by
  unfold rd; congr 1; apply List.filter_congr; intro j _
  have h1 : ¬ b = -1 - (j : Int) := by omega
  have h2 : ¬ (0 : Int) = -1 - (j : Int) := by omega
  simp only [h1, h2]
theorem rd_a {a b : Int} (h : 0 ≤ a) (k : Nat) : rd a b k = rd 0 b k := by
  unfold rd; congr 1; apply List.filter_congr; intro j _
  have h1 : ¬ a = -1 - (j : Int) := by omega
  have h2 : ¬ (0 : Int) = -1 - (j : Int) := by omega
  simp only [h1, h2]

/-- The variable that an operand names, if it does. -/
def vk (x : Int) : List Int := if x < 0 then [-1 - x] else []
theorem vk_neg {x : Int} (h : x < 0) : vk x = [-1 - x] := by simp [vk, h]
theorem vk_pos {x : Int} (h : ¬ x < 0) : vk x = [] := by simp [vk, h]
theorem compact0 : Lib.compact ([] : List Int) = [] := by simp [Lib.compact, Lib.compactUpTo]
theorem compact1 (x : Int) : Lib.compact [x] = [x] := by simp [Lib.compact, Lib.compactUpTo, Lib.keeps, List.range_succ]
theorem compact2 (x y : Int) : Lib.compact [x, y] = if x = y then [x] else [x, y] := by
  by_cases h : x = y
  · subst h; simp [Lib.compact, Lib.compactUpTo, Lib.keeps, List.range_succ]
  · have h' : ¬ y = x := fun e => h e.symm
    simp [Lib.compact, Lib.compactUpTo, Lib.keeps, List.range_succ, h, h']
def srt (L : List Int) : List Int := L.mergeSort fun x y => decide (x ≤ y)
theorem srt0 : srt [] = [] := by simp [srt]
theorem srt1 (x : Int) : srt [x] = [x] := by simp [srt]
theorem srt2 (x y : Int) : srt [x, y] = if x ≤ y then [x, y] else [y, x] := by
  unfold srt
  by_cases h : x ≤ y <;> simp [List.mergeSort, h]
theorem one_rd (i : Fin 8) : rd (-1 - (i.val : Int)) 0 8 = [(i.val : Int)] ∧ rd 0 (-1 - (i.val : Int)) 8 = [(i.val : Int)] := by
  revert i; decide
theorem two_rd (i j : Fin 8) : rd (-1 - (i.val : Int)) (-1 - (j.val : Int)) 8 = if (i.val : Int) = j.val then [(i.val : Int)] else if (i.val : Int) ≤ j.val then [(i.val : Int), (j.val : Int)] else [(j.val : Int), (i.val : Int)] := by
  revert i j; decide
theorem reads_same (a b : Int) (ha : -8 ≤ a) (hb : -8 ≤ b) : Lib.compact (srt (vk a ++ vk b)) = rd a b 8 := by
  by_cases h1 : a < 0 <;> by_cases h2 : b < 0
  · obtain ⟨i, hi, rfl⟩ : ∃ i : Nat, i < 8 ∧ a = -1 - (i : Int) := ⟨(-1 - a).toNat, by omega, by omega⟩
    obtain ⟨j, hj, rfl⟩ : ∃ j : Nat, j < 8 ∧ b = -1 - (j : Int) := ⟨(-1 - b).toNat, by omega, by omega⟩
    have e := two_rd ⟨i, hi⟩ ⟨j, hj⟩
    simp only at e
    rw [e, vk_neg h1, vk_neg h2, show (-1 - (-1 - (i : Int))) = i by omega, show (-1 - (-1 - (j : Int))) = j by omega]
    show Lib.compact (srt [(i : Int), (j : Int)]) = _
    rw [srt2]
    by_cases hle : (i : Int) ≤ j
    · simp only [if_pos hle, compact2]
    · have he : ¬ (j : Int) = i := by omega
      have he' : ¬ (i : Int) = j := by omega
      simp only [if_neg hle, compact2, if_neg he, if_neg he']
  · obtain ⟨i, hi, rfl⟩ : ∃ i : Nat, i < 8 ∧ a = -1 - (i : Int) := ⟨(-1 - a).toNat, by omega, by omega⟩
    rw [rd_b (by omega), vk_neg h1, vk_pos h2, show (-1 - (-1 - (i : Int))) = i by omega, List.append_nil, srt1, compact1]
    exact (one_rd ⟨i, hi⟩).1.symm
  · obtain ⟨j, hj, rfl⟩ : ∃ j : Nat, j < 8 ∧ b = -1 - (j : Int) := ⟨(-1 - b).toNat, by omega, by omega⟩
    rw [rd_a (by omega), vk_neg h2, vk_pos h1, show (-1 - (-1 - (j : Int))) = j by omega, List.nil_append, srt1, compact1]
    exact (one_rd ⟨j, hj⟩).2.symm
  · rw [rd_a (by omega), rd_b (by omega), vk_pos h1, vk_pos h2, List.nil_append, srt0, compact0]; decide
end Go.Proofs.Ytcmhiadaebpgmaa.expr
