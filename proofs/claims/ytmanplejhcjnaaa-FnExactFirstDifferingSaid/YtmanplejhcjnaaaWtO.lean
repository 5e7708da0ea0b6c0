/- Chapter 10 of the model: FirstDiffering; nothing is written. -/
import Derived.Test.YtmanplejhcjnaaaWtI
import Derived.Deep.RegionHeld3
namespace Go.Proofs.Ytmanplejhcjnaaa.wrt
open Go Go.ChangeShapes Go.WideShapes Go.ChangeAt Go.RowKit Go.Proofs.Ytmanplejhcjnaaa.row Go.Proofs.Ytmanplejhcjnaaa.val Go.Proofs.Ytmanplejhcjnaaa.expr Go.Proofs.Ytmanplejhcjnaaa.grow

set_option maxHeartbeats 2000000 in
set_option maxRecDepth 100000 in
theorem spec_first (w : World) (a b : Option Addr) (n m cap cap' : Nat) (A B : List Int) (r : Int) (hn : (n : Int) ≤ 1048576) (hm : (m : Int) ≤ 1048576) (hA : Row w a n A) (hB : Row w b m B) (hr : FdIs A B r) :
    Calls Try.prog 29 #[.slice a n cap, .slice b m cap'] w (BelI w r) := by
  have HR := Lib.hid hr
  have HL := Lib.hid (And.intro hA.1 hB.1)
  have HC : Hid (∀ (wr : World), Below w.heap.size w wr → ∀ j, j < n → j < m → ∃ (g o g' o' : Nat) (x y : Int), a = some ⟨g, o, none⟩ ∧ b = some ⟨g', o', none⟩ ∧ A[j]? = some x ∧ B[j]? = some y ∧ wr.cell? ⟨g, o + j, none⟩ = some (.int .i64 x) ∧ wr.cell? ⟨g', o' + j, none⟩ = some (.int .i64 y)) := by
    intro wr hb j h1 h2
    obtain ⟨g, o, x, e1, _, x1, c1⟩ := (hA.below hb).2 j h1
    obtain ⟨g', o', y, e2, _, x2, c2⟩ := (hB.below hb).2 j h2
    exact ⟨g, o, g', o', x, y, e1, e2, x1, x2, c1, c2⟩
  clear hA hB hr
  go_enter Try.func29, Try.ntmps29
  go_wp2
  go_loopw [5] (fun i wr => ∃ j : Nat, j ≤ n ∧ j ≤ m ∧ i = .int .i64 j ∧ Hid (∀ k, k < j → A[k]? = B[k]?) ∧ Below w.heap.size w wr) (fun i _ => n - (intOf i).toNat)
  case atStart => exact ⟨0, Nat.zero_le _, Nat.zero_le _, rfl, fun k hk => absurd hk (by omega), Below.refl _ _⟩
  case round =>
    obtain ⟨j, hj1, hj2, rfl, HE, hbel⟩ := hrel
    have HB := Lib.hid hbel
    by_cases h1 : j < n
    · have hI1 : (j : Int) < n := by omega
      have hG1 : decide ((n : Int) ≤ j) = false := by simp; omega
      by_cases h2 : j < m
      · have hI2 : (j : Int) < m := by omega
        have hG2 : decide ((m : Int) ≤ j) = false := by simp; omega
        obtain ⟨g, o, g', o', x, y, rfl, rfl, x1, x2, c1, c2⟩ := HC.out wr hbel j h1 h2
        have HX := Lib.hid (And.intro x1 x2)
        clear x1 x2 hbel
        by_cases hxy : x = y
        · subst hxy
          have HE2 : Hid (∀ k, k < j + 1 → A[k]? = B[k]?) := fun k hk => by
            rcases (show k < j ∨ k = j by omega) with h | rfl
            · exact HE.out k h
            · rw [HX.out.1, HX.out.2]
          go_wp2
          go_quiet (fail)
          go_wp2
          go_roundw
          case rel => exact ⟨j + 1, by omega, by omega, by go_num, HE2, by first | exact HB.out | exact below_drewN HB.out _⟩
          case measure => simp [intOf]; omega
        · have hb : (x != y) = true := by simpa using hxy
          have HRJ := Lib.hid (show r = j from fd_at HR.out HE.out (by rw [HX.out.1, HX.out.2]; intro e; exact hxy (Option.some.inj e)))
          go_wp2
          go_quiet (fail)
          go_wp2
          go_ret
          exact ⟨ret_i HRJ.out.symm, by first | exact HB.out | exact below_drewN HB.out _⟩
      · obtain rfl : j = m := by omega
        have HRJ := Lib.hid (show r = j from fd_at HR.out HE.out (by rw [List.getElem?_eq_none (show B.length ≤ j by rw [HL.out.2]; exact Nat.le_refl _), List.getElem?_eq_getElem (show j < A.length by rw [HL.out.1]; exact h1)]; simp))
        clear hbel
        go_wp2
        refine wp_region_held_drew (S := fun _ => True) (by kernel_rfl) trivial (fun hHeld => ?_)
        refine wpAnyH_take (i := 0) (v := .int .i64 j) rfl (by kernel_rfl) (by kernel_rfl) (by kernel_rfl) (fun _ _ _ h => h) (Or.inl ⟨by rfl, (by intro w' hSw; (try dsimp only at hSw); go_simp)⟩) (by assumption) ?_
        try simp only [Act.put, List.getElem_toArray, List.getElem_cons_zero, List.setIfInBounds_toArray, List.set_cons_zero, List.set_cons_succ]
        refine wpAnyH_take (i := 1) (v := .slice a n cap) rfl (by kernel_rfl) (by kernel_rfl) (by kernel_rfl) (fun _ _ _ h => h) (Or.inl ⟨by rfl, (by intro w' hSw; (try dsimp only at hSw); go_simp)⟩) (by assumption) ?_
        try simp only [Act.put, List.getElem_toArray, List.getElem_cons_zero, List.getElem_cons_succ, List.setIfInBounds_toArray, List.set_cons_zero, List.set_cons_succ]
        refine wpAnyH_take (i := 2) (v := .int .i64 n) rfl (by kernel_rfl) (by kernel_rfl) (by kernel_rfl) (fun _ _ _ h => h) (Or.inl ⟨by rfl, (by intro w' hSw; (try dsimp only at hSw); go_simp)⟩) (by assumption) ?_
        try simp only [Act.put, List.getElem_toArray, List.getElem_cons_zero, List.getElem_cons_succ, List.setIfInBounds_toArray, List.set_cons_zero, List.set_cons_succ]
        refine wpAnyH_take (i := 3) (v := .bool false) rfl (by kernel_rfl) (by kernel_rfl) (by kernel_rfl) (fun _ _ _ h => h) (Or.inl ⟨by rfl, (by intro w' hSw; (try dsimp only at hSw); go_simp)⟩) (by assumption) ?_
        try simp only [Act.put, List.getElem_toArray, List.getElem_cons_zero, List.getElem_cons_succ, List.setIfInBounds_toArray, List.set_cons_zero, List.set_cons_succ]
        refine wpAnyH_take (i := 4) (v := .bool false) rfl (by kernel_rfl) (by kernel_rfl) (by kernel_rfl) (fun _ _ _ h => h) (Or.inl ⟨by rfl, (by intro w' hSw; (try dsimp only at hSw); go_simp)⟩) (by assumption) ?_
        try simp only [Act.put, List.getElem_toArray, List.getElem_cons_zero, List.getElem_cons_succ, List.setIfInBounds_toArray, List.set_cons_zero, List.set_cons_succ]
        refine wpAnyH_take (i := 5) (v := .int .i64 j) rfl (by kernel_rfl) (by kernel_rfl) (by kernel_rfl) (fun _ _ _ h => h) (Or.inl ⟨by rfl, (by intro w' hSw; (try dsimp only at hSw); go_simp)⟩) (by assumption) ?_
        try simp only [Act.put, List.getElem_toArray, List.getElem_cons_zero, List.getElem_cons_succ, List.setIfInBounds_toArray, List.set_cons_zero, List.set_cons_succ]
        refine wpAnyH_take (i := 6) (v := .slice b j cap') rfl (by kernel_rfl) (by kernel_rfl) (by kernel_rfl) (fun _ _ _ h => h) (Or.inl ⟨by rfl, (by intro w' hSw; (try dsimp only at hSw); go_simp)⟩) (by assumption) ?_
        try simp only [Act.put, List.getElem_toArray, List.getElem_cons_zero, List.getElem_cons_succ, List.setIfInBounds_toArray, List.set_cons_zero, List.set_cons_succ]
        refine wpAnyH_take (i := 7) (v := .int .i64 j) rfl (by kernel_rfl) (by kernel_rfl) (by kernel_rfl) (fun _ _ _ h => h) (Or.inl ⟨by rfl, (by intro w' hSw; (try dsimp only at hSw); go_simp)⟩) (by assumption) ?_
        try simp only [Act.put, List.getElem_toArray, List.getElem_cons_zero, List.getElem_cons_succ, List.setIfInBounds_toArray, List.set_cons_zero, List.set_cons_succ]
        refine wpAnyH_take (i := 8) (v := .bool true) rfl (by kernel_rfl) (by kernel_rfl) (by kernel_rfl) (fun _ _ _ h => h) (Or.inl ⟨by rfl, (by intro w' hSw; (try dsimp only at hSw); go_simp)⟩) (by assumption) ?_
        try simp only [Act.put, List.getElem_toArray, List.getElem_cons_zero, List.getElem_cons_succ, List.setIfInBounds_toArray, List.set_cons_zero, List.set_cons_succ]
        refine wpAnyH_take (i := 9) (v := .bool true) rfl (by kernel_rfl) (by kernel_rfl) (by kernel_rfl) (fun _ _ _ h => h) (Or.inl ⟨by rfl, (by intro w' hSw; (try dsimp only at hSw); go_simp)⟩) (by assumption) ?_
        try simp only [Act.put, List.getElem_toArray, List.getElem_cons_zero, List.getElem_cons_succ, List.setIfInBounds_toArray, List.set_cons_zero, List.set_cons_succ]
        refine wpAnyH_take (i := 10) (v := .bool true) rfl (by kernel_rfl) (by kernel_rfl) (by kernel_rfl) (fun _ _ _ h => h) (Or.inl ⟨by rfl, (by intro w' hSw; (try dsimp only at hSw); go_simp)⟩) (by assumption) ?_
        try simp only [Act.put, List.getElem_toArray, List.getElem_cons_zero, List.getElem_cons_succ, List.setIfInBounds_toArray, List.set_cons_zero, List.set_cons_succ]
        refine wpAnyH_take (i := 11) (v := undef) rfl (by kernel_rfl) (by kernel_rfl) (by kernel_rfl) (fun _ _ _ h => h) (Or.inr ⟨by kernel_rfl, rfl⟩) (by assumption) ?_
        try simp only [Act.put, List.getElem_toArray, List.getElem_cons_zero, List.getElem_cons_succ, List.setIfInBounds_toArray, List.set_cons_zero, List.set_cons_succ]
        refine wpAnyH_take (i := 12) (v := undef) rfl (by kernel_rfl) (by kernel_rfl) (by kernel_rfl) (fun _ _ _ h => h) (Or.inr ⟨by kernel_rfl, rfl⟩) (by assumption) ?_
        try simp only [Act.put, List.getElem_toArray, List.getElem_cons_zero, List.getElem_cons_succ, List.setIfInBounds_toArray, List.set_cons_zero, List.set_cons_succ]
        refine wpAnyH_take (i := 13) (v := undef) rfl (by kernel_rfl) (by kernel_rfl) (by kernel_rfl) (fun _ _ _ h => h) (Or.inr ⟨by kernel_rfl, rfl⟩) (by assumption) ?_
        try simp only [Act.put, List.getElem_toArray, List.getElem_cons_zero, List.getElem_cons_succ, List.setIfInBounds_toArray, List.set_cons_zero, List.set_cons_succ]
        refine wpAnyH_take (i := 14) (v := undef) rfl (by kernel_rfl) (by kernel_rfl) (by kernel_rfl) (fun _ _ _ h => h) (Or.inr ⟨by kernel_rfl, rfl⟩) (by assumption) ?_
        try simp only [Act.put, List.getElem_toArray, List.getElem_cons_zero, List.getElem_cons_succ, List.setIfInBounds_toArray, List.set_cons_zero, List.set_cons_succ]
        refine wpAnyH_take (i := 15) (v := undef) rfl (by kernel_rfl) (by kernel_rfl) (by kernel_rfl) (fun _ _ _ h => h) (Or.inr ⟨by kernel_rfl, rfl⟩) (by assumption) ?_
        try simp only [Act.put, List.getElem_toArray, List.getElem_cons_zero, List.getElem_cons_succ, List.setIfInBounds_toArray, List.set_cons_zero, List.set_cons_succ]
        refine wpAnyH_take (i := 16) (v := undef) rfl (by kernel_rfl) (by kernel_rfl) (by kernel_rfl) (fun _ _ _ h => h) (Or.inr ⟨by kernel_rfl, rfl⟩) (by assumption) ?_
        try simp only [Act.put, List.getElem_toArray, List.getElem_cons_zero, List.getElem_cons_succ, List.setIfInBounds_toArray, List.set_cons_zero, List.set_cons_succ]
        refine wpAnyH_take (i := 17) (v := undef) rfl (by kernel_rfl) (by kernel_rfl) (by kernel_rfl) (fun _ _ _ h => h) (Or.inr ⟨by kernel_rfl, rfl⟩) (by assumption) ?_
        try simp only [Act.put, List.getElem_toArray, List.getElem_cons_zero, List.getElem_cons_succ, List.setIfInBounds_toArray, List.set_cons_zero, List.set_cons_succ]
        refine wpAnyH_take (i := 18) (v := undef) rfl (by kernel_rfl) (by kernel_rfl) (by kernel_rfl) (fun _ _ _ h => h) (Or.inr ⟨by kernel_rfl, rfl⟩) (by assumption) ?_
        try simp only [Act.put, List.getElem_toArray, List.getElem_cons_zero, List.getElem_cons_succ, List.setIfInBounds_toArray, List.set_cons_zero, List.set_cons_succ]
        refine wpAnyH_take (i := 19) (v := undef) rfl (by kernel_rfl) (by kernel_rfl) (by kernel_rfl) (fun _ _ _ h => h) (Or.inr ⟨by kernel_rfl, rfl⟩) (by assumption) ?_
        try simp only [Act.put, List.getElem_toArray, List.getElem_cons_zero, List.getElem_cons_succ, List.setIfInBounds_toArray, List.set_cons_zero, List.set_cons_succ]
        refine wpAnyH_take (i := 20) (v := .bool true) rfl (by kernel_rfl) (by kernel_rfl) (by kernel_rfl) (fun _ _ _ h => h) (Or.inl ⟨by rfl, (by intro w' hSw; (try dsimp only at hSw); go_simp)⟩) (by assumption) ?_
        try simp only [Act.put, List.getElem_toArray, List.getElem_cons_zero, List.getElem_cons_succ, List.setIfInBounds_toArray, List.set_cons_zero, List.set_cons_succ]
        refine wpAnyH_done (by kernel_rfl) ?_ _
        go_wp2
        go_ret
        exact ⟨ret_i HRJ.out.symm, by first | exact HB.out | exact below_drewN HB.out _⟩
    · have hI1 : ¬ (j : Int) < n := by omega
      have hG1 : decide ((n : Int) ≤ j) = true := by simp; omega
      by_cases h2 : j < m
      · have hI2 : (j : Int) < m := by omega
        have hG2 : decide ((m : Int) ≤ j) = false := by simp; omega
        have HRJ := Lib.hid (show r = j from fd_at HR.out HE.out (by rw [List.getElem?_eq_none (show A.length ≤ j by rw [HL.out.1]; omega), List.getElem?_eq_getElem (show j < B.length by rw [HL.out.2]; exact h2)]; simp))
        clear hbel
        go_wp2
        go_quiet (fail)
        go_wp2
        go_ret
        exact ⟨ret_i HRJ.out.symm, by first | exact HB.out | exact below_drewN HB.out _⟩
      · have hI2 : ¬ (j : Int) < m := by omega
        have HRJ := Lib.hid (show r = -1 from fd_end HR.out HE.out (by rw [HL.out.1]; omega) (by rw [HL.out.2]; omega))
        clear hbel
        go_wp2
        go_ret
        exact ⟨ret_i HRJ.out.symm, HB.out⟩
end Go.Proofs.Ytmanplejhcjnaaa.wrt
