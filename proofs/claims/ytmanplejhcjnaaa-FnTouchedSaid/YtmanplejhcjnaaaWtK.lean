/- Chapter 10 of the program: FirstDiffering; nothing that was there is written. -/
import Derived.Test.YtmanplejhcjnaaaWtI
namespace Go.Proofs.Ytmanplejhcjnaaa.wrt
open Go Go.ChangeShapes Go.WideShapes Go.ChangeAt Go.RowKit Go.Proofs.Ytmanplejhcjnaaa.row Go.Proofs.Ytmanplejhcjnaaa.val Go.Proofs.Ytmanplejhcjnaaa.expr Go.Proofs.Ytmanplejhcjnaaa.grow

theorem ivs_put (P : List Int) (m : Nat) (v : Int) : (ivs P).toArray.setIfInBounds m (.int .i64 v) = (ivs (P.set m v)).toArray := by
  rw [← ivs_set]; simp
set_option maxHeartbeats 1000000 in
set_option maxRecDepth 100000 in
theorem impl_first (w : World) (a b : Option Addr) (n m cap cap' : Nat) (A B : List Int) (r : Int) (hn : (n : Int) ≤ 1048576) (hm : (m : Int) ≤ 1048576) (hA : Row w a n A) (hB : Row w b m B) (hr : FdIs A B r) :
    Calls Try.prog 17 #[.slice a n cap, .slice b m cap'] w (BelI w r) := by
  have HR := Lib.hid hr
  have HL := Lib.hid (And.intro hA.1 hB.1)
  have HC : Hid (∀ (wr : World), Below w.heap.size w wr → ∀ j, j < n → j < m → ∃ (g o g' o' : Nat) (x y : Int), a = some ⟨g, o, none⟩ ∧ b = some ⟨g', o', none⟩ ∧ A[j]? = some x ∧ B[j]? = some y ∧ wr.cell? ⟨g, o + j, none⟩ = some (.int .i64 x) ∧ wr.cell? ⟨g', o' + j, none⟩ = some (.int .i64 y)) := by
    intro wr hb j h1 h2
    obtain ⟨g, o, x, e1, _, x1, c1⟩ := (hA.below hb).2 j h1
    obtain ⟨g', o', y, e2, _, x2, c2⟩ := (hB.below hb).2 j h2
    exact ⟨g, o, g', o', x, y, e1, e2, x1, x2, c1, c2⟩
  clear hA hB hr
  rcases Nat.lt_or_ge m n with hmn | hmn
  all_goals
    have hmi : (m : Int) < n ∨ (n : Int) ≤ m := by omega
    have hmJ := Lib.hid hmn
    first
      | (have hq : (m : Int) < n := by omega)
      | (have hq : ¬ (m : Int) < n := by omega)
    clear hmi hmn
    go_enter Try.func17, Try.ntmps17
    go_wp2
    go_loopw [6, 13] (fun _ i wr => ∃ j : Nat, j ≤ n ∧ j ≤ m ∧ i = .int .i64 j ∧ Hid (∀ k, k < j → A[k]? = B[k]?) ∧ Below w.heap.size w wr) (fun _ i _ => n - (intOf i).toNat)
    case atStart => exact ⟨0, Nat.zero_le _, Nat.zero_le _, rfl, fun k hk => absurd hk (by omega), Below.refl _ _⟩
    case round =>
      obtain ⟨j, hj1, hj2, rfl, HE, hbel⟩ := hrel
      by_cases hlt : j < n ∧ j < m
      · obtain ⟨h1, h2⟩ := hlt
        have hI1 : (j : Int) < n := by omega
        have hI2 : (j : Int) < m := by omega
        obtain ⟨g, o, g', o', x, y, rfl, rfl, x1, x2, c1, c2⟩ := HC.out wr hbel j h1 h2
        have HX := Lib.hid (And.intro x1 x2)
        have HB := Lib.hid hbel
        clear x1 x2 hbel
        by_cases hxy : x = y
        · subst hxy
          have HE2 : Hid (∀ k, k < j + 1 → A[k]? = B[k]?) := fun k hk => by
            rcases (show k < j ∨ k = j by omega) with h | rfl
            · exact HE.out k h
            · rw [HX.out.1, HX.out.2]
          go_wp2
          go_quiet (fail)
          go_wp2
          go_roundw
          case rel => exact ⟨j + 1, by omega, by omega, by go_num, HE2, by first | exact HB.out | exact below_drewN HB.out _⟩
          case measure => simp [intOf]; omega
        · have hb : (x == y) = false := by simpa using hxy
          have HRJ := Lib.hid (show r = j from fd_at HR.out HE.out (by rw [HX.out.1, HX.out.2]; intro e; exact hxy (Option.some.inj e)))
          go_wp2
          go_quiet (fail)
          go_wp2
          go_ret
          exact ⟨ret_i HRJ.out.symm, by first | exact HB.out | exact below_drewN HB.out _⟩
      · have HB := Lib.hid hbel
        try have hI1 : ¬ (j : Int) < m := by have := hmJ.out; omega
        try have hI2 : ¬ (j : Int) < n := by have := hmJ.out; omega
        by_cases hnm : n = m
        · subst hnm
          have HRJ := Lib.hid (show r = -1 from fd_end HR.out HE.out (by rw [HL.out.1]; omega) (by rw [HL.out.2]; omega))
          clear hbel
          go_wp2
          go_ret
          exact ⟨ret_i HRJ.out.symm, HB.out⟩
        · have HRJ := Lib.hid (show r = j from fd_at HR.out HE.out (by
            rcases (show n = j ∧ j < m ∨ m = j ∧ j < n by omega) with ⟨h1, h2⟩ | ⟨h1, h2⟩
            · rw [List.getElem?_eq_none (show A.length ≤ j by rw [HL.out.1]; omega), List.getElem?_eq_getElem (show j < B.length by rw [HL.out.2]; exact h2)]; simp
            · rw [List.getElem?_eq_none (show B.length ≤ j by rw [HL.out.2]; omega), List.getElem?_eq_getElem (show j < A.length by rw [HL.out.1]; exact h2)]; simp))
          have HJ := Lib.hid (show (n = j ∨ m = j) by omega)
          have hnb : ((n : Int) == (m : Int)) = false := by simp; omega
          clear hbel hnm
          go_wp2
          go_ret
          refine ⟨ret_i ?_, HB.out⟩
          rw [HRJ.out]; have := hmJ.out; have := HJ.out; omega
end Go.Proofs.Ytmanplejhcjnaaa.wrt
