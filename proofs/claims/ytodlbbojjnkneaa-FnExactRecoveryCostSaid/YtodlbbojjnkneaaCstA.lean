/- Costs: RecoveryCost and EnergyFor, of the program and of the model; no condition. -/
import Derived.Test.YtodlbbojjnkneaaExpr
namespace Go.Proofs.Ytodlbbojjnkneaa.cst
open Go Go.ChangeShapes Go.WideShapes Go.ChangeAt Go.RowKit Go.Proofs.Ytodlbbojjnkneaa.row Go.Proofs.Ytodlbbojjnkneaa.val Go.Proofs.Ytodlbbojjnkneaa.expr

def recC (n : Int) : Int := if n < 0 ∨ 8 < n then -1 else if n = 0 then 0 else 3 * (n + 1)
def amt (n : Int) : Bool := decide (0 ≤ n) && decide (n ≤ 1000000)
def nrgC (s r : Int) : Int := if amt s = true ∧ amt r = true then s * 2 + r * 3 else -1
theorem recC_out {n : Int} (h : n < 0 ∨ 8 < n) : recC n = -1 := by unfold recC; rw [if_pos h]
theorem recC_zero : recC 0 = 0 := rfl
theorem recC_in {n : Int} (h : 1 ≤ n) (h2 : n ≤ 8) : recC n = 3 * (n + 1) := by unfold recC; rw [if_neg (by omega), if_neg (by omega)]
theorem amt_iff {n : Int} : amt n = true ↔ 0 ≤ n ∧ n ≤ 1000000 := by simp [amt]
theorem nrgC_in {s r : Int} (h : amt s = true) (h2 : amt r = true) : nrgC s r = s * 2 + r * 3 := by unfold nrgC; rw [if_pos ⟨h, h2⟩]
theorem nrgC_out1 {s r : Int} (h : amt s = false) : nrgC s r = -1 := by unfold nrgC; rw [if_neg (by simp [h])]
theorem nrgC_out2 {s r : Int} (h : amt r = false) : nrgC s r = -1 := by unfold nrgC; rw [if_neg (by simp [h])]
theorem impl_recovery (n : Int) (w : World) : Calls Try.prog 11 #[.int .i64 n] w (Ret w (recC n)) := by
  rcases (show n < 0 ∨ 8 < n ∨ n = 0 ∨ (1 ≤ n ∧ n ≤ 8) by omega) with h | h | rfl | ⟨h, h2⟩
  · have HV := Lib.hid (recC_out (n := n) (.inl h))
    go_enter Try.func11, Try.ntmps11
    go_wp2
    go_ret
    exact ⟨ret_int HV.out.symm, rfl⟩
  · have HV := Lib.hid (recC_out (n := n) (.inr h))
    have h0 : ¬ n < 0 := by omega
    go_enter Try.func11, Try.ntmps11
    go_wp2
    go_ret
    exact ⟨ret_int HV.out.symm, rfl⟩
  · go_enter Try.func11, Try.ntmps11
    go_wp2
    go_ret
    exact ⟨rfl, rfl⟩
  · have HV := Lib.hid (recC_in (n := n) h h2)
    have h0 : ¬ n < 0 := by omega
    have h3 : ¬ n = 0 := by omega
    go_enter Try.func11, Try.ntmps11
    go_wp2
    go_ret
    exact ⟨ret_int HV.out.symm, rfl⟩
theorem spec_recovery (n : Int) (w : World) : Calls Try.prog 18 #[.int .i64 n] w (Ret w (recC n)) := by
  rcases (show (n < 0 ∨ 8 < n) ∨ n = 0 ∨ (1 ≤ n ∧ n ≤ 8) by omega) with h | rfl | ⟨h, h2⟩
  · have HV := Lib.hid (recC_out (n := n) h)
    have HIN := Lib.hid (show (decide (0 ≤ n) && decide (n ≤ 8)) = false by simp; omega)
    clear h
    go_enter Try.func18, Try.ntmps18
    go_wp2_with (go_at_call 31; (with_reducible refine (in_any _ 0 8 _ HIN.out _).mono ?_); rintro e w3 ⟨rfl, rfl⟩)
    go_ret
    exact ⟨ret_int HV.out.symm, rfl⟩
  · go_enter Try.func18, Try.ntmps18
    go_wp2_with (go_at_call 31; (with_reducible refine (in_any _ 0 8 true rfl _).mono ?_); rintro e w3 ⟨rfl, rfl⟩)
    go_ret
    exact ⟨rfl, rfl⟩
  · have HV := Lib.hid (recC_in (n := n) h h2)
    have HIN := Lib.hid (show (decide (0 ≤ n) && decide (n ≤ 8)) = true by simp; omega)
    have h3 : ¬ n = 0 := by omega
    go_enter Try.func18, Try.ntmps18
    go_wp2_with (go_at_call 31; (with_reducible refine (in_any _ 0 8 _ HIN.out _).mono ?_); rintro e w3 ⟨rfl, rfl⟩)
    go_ret
    exact ⟨ret_int HV.out.symm, rfl⟩
theorem impl_amount (v : Int) (r : Bool) (hr : amt v = r) (w : World) : Calls Try.prog 28 #[.int .i64 v] w (RetB w r) := by
  subst hr
  rcases (show v < 0 ∨ 1000000 < v ∨ (0 ≤ v ∧ v ≤ 1000000) by omega) with h | h | ⟨h, h2⟩
  · have HE := Lib.hid (show amt v = false by simp [amt]; omega)
    go_enter Try.func28, Try.ntmps28
    go_wp2
    go_ret
    exact ⟨by rw [HE.out]; rfl, rfl⟩
  · have HE := Lib.hid (show amt v = false by simp [amt]; omega)
    have h' : decide (v ≤ 1000000) = false := by simp; omega
    go_enter Try.func28, Try.ntmps28
    go_wp2
    go_ret
    exact ⟨by rw [HE.out]; simp, rfl⟩
  · have HE := Lib.hid (show amt v = true by simp [amt]; omega)
    go_enter Try.func28, Try.ntmps28
    go_wp2
    go_ret
    exact ⟨by rw [HE.out]; rfl, rfl⟩
theorem impl_energy (s r : Int) (w : World) : Calls Try.prog 13 #[.int .i64 s, .int .i64 r] w (Ret w (nrgC s r)) := by
  cases h1 : amt s
  · have H1 := Lib.hid h1
    have HV := Lib.hid (nrgC_out1 (r := r) h1)
    clear h1
    go_enter Try.func13, Try.ntmps13
    go_wp2_with (go_at_call 28; (with_reducible refine (impl_amount s _ H1.out _).mono ?_); rintro e w3 ⟨rfl, rfl⟩)
    go_ret
    exact ⟨ret_int HV.out.symm, rfl⟩
  · cases h2 : amt r
    · have H1 := Lib.hid h1
      have H2 := Lib.hid h2
      have HV := Lib.hid (nrgC_out2 (s := s) h2)
      clear h1 h2
      go_enter Try.func13, Try.ntmps13
      go_wp2_with (first
        | (go_at_call 28; (with_reducible refine (impl_amount s _ H1.out _).mono ?_); rintro e w3 ⟨rfl, rfl⟩)
        | (go_at_call 28; (with_reducible refine (impl_amount r _ H2.out _).mono ?_); rintro e w3 ⟨rfl, rfl⟩))
      go_ret
      exact ⟨ret_int HV.out.symm, rfl⟩
    · have H1 := Lib.hid h1
      have H2 := Lib.hid h2
      have HV := Lib.hid (nrgC_in h1 h2)
      have b1 := amt_iff.1 h1
      have b2 := amt_iff.1 h2
      clear h1 h2
      go_enter Try.func13, Try.ntmps13
      go_wp2_with (first
        | (go_at_call 28; (with_reducible refine (impl_amount s _ H1.out _).mono ?_); rintro e w3 ⟨rfl, rfl⟩)
        | (go_at_call 28; (with_reducible refine (impl_amount r _ H2.out _).mono ?_); rintro e w3 ⟨rfl, rfl⟩))
      go_ret
      exact ⟨ret_int HV.out.symm, rfl⟩
theorem spec_energy (s r : Int) (w : World) : Calls Try.prog 19 #[.int .i64 s, .int .i64 r] w (Ret w (nrgC s r)) := by
  cases h1 : amt s
  · have H1 := Lib.hid (show (decide (0 ≤ s) && decide (s ≤ 1000000)) = false from h1)
    have HV := Lib.hid (nrgC_out1 (r := r) h1)
    clear h1
    go_enter Try.func19, Try.ntmps19
    go_wp2_with (go_at_call 31; (with_reducible refine (in_any s 0 1000000 _ H1.out _).mono ?_); rintro e w3 ⟨rfl, rfl⟩)
    go_ret
    exact ⟨ret_int HV.out.symm, rfl⟩
  · cases h2 : amt r
    · have H1 := Lib.hid (show (decide (0 ≤ s) && decide (s ≤ 1000000)) = true from h1)
      have H2 := Lib.hid (show (decide (0 ≤ r) && decide (r ≤ 1000000)) = false from h2)
      have HV := Lib.hid (nrgC_out2 (s := s) h2)
      clear h1 h2
      go_enter Try.func19, Try.ntmps19
      go_wp2_with (first
        | (go_at_call 31; (with_reducible refine (in_any s 0 1000000 _ H1.out _).mono ?_); rintro e w3 ⟨rfl, rfl⟩)
        | (go_at_call 31; (with_reducible refine (in_any r 0 1000000 _ H2.out _).mono ?_); rintro e w3 ⟨rfl, rfl⟩))
      go_ret
      exact ⟨ret_int HV.out.symm, rfl⟩
    · have H1 := Lib.hid (show (decide (0 ≤ s) && decide (s ≤ 1000000)) = true from h1)
      have H2 := Lib.hid (show (decide (0 ≤ r) && decide (r ≤ 1000000)) = true from h2)
      have HV := Lib.hid (nrgC_in h1 h2)
      have b1 := amt_iff.1 h1
      have b2 := amt_iff.1 h2
      clear h1 h2
      go_enter Try.func19, Try.ntmps19
      go_wp2_with (first
        | (go_at_call 31; (with_reducible refine (in_any s 0 1000000 _ H1.out _).mono ?_); rintro e w3 ⟨rfl, rfl⟩)
        | (go_at_call 31; (with_reducible refine (in_any r 0 1000000 _ H2.out _).mono ?_); rintro e w3 ⟨rfl, rfl⟩))
      go_ret
      exact ⟨ret_int HV.out.symm, rfl⟩
end Go.Proofs.Ytodlbbojjnkneaa.cst
