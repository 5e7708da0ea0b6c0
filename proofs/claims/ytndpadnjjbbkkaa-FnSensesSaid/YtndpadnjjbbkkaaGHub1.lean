/- Several texts in one: Val. -/
import Derived.Test.YtndpadnjjbbkkaaRows
import Derived.WalkKit
import Derived.ProofKit
import Derived.OpenShut
import Derived.Lib.Hide
import Derived.Below

/- Chapter 2's functions, of the program and of the model: each returns the clamped number, sum, difference or product, and writes nothing; no condition. -/
namespace Go.Proofs.Ytndpadnjjbbkkaa.val
open Go.ChangeShapes Go.WideShapes Go.ChangeAt Go.RowKit

theorem ret_int {k : IntKind} {a b : Int} (h : a = b) : Ending.returned (.int k a) = .returned (.int k b) := by rw [h]
def clampV (n low high : Int) : Int := if high < low then low else if n < low then low else if high < n then high else n
def sat (n : Int) : Int := clampV n (-1000000) 1000000
theorem sat_low {n : Int} (h : n < -1000000) : sat n = -1000000 := by unfold sat clampV; rw [if_neg (by omega), if_pos h]
theorem sat_high {n : Int} (h : 1000000 < n) : sat n = 1000000 := by unfold sat clampV; rw [if_neg (by omega), if_neg (by omega), if_pos h]
theorem sat_in {n : Int} (h : -1000000 ≤ n) (h2 : n ≤ 1000000) : sat n = n := by unfold sat clampV; rw [if_neg (by omega), if_neg (by omega), if_neg (by omega)]
theorem sat_bd (n : Int) : -1000000 ≤ sat n ∧ sat n ≤ 1000000 := by
  rcases (show n < -1000000 ∨ 1000000 < n ∨ (-1000000 ≤ n ∧ n ≤ 1000000) by omega) with h | h | ⟨h, h2⟩
  · rw [sat_low h]; omega
  · rw [sat_high h]; omega
  · rw [sat_in h h2]; omega
theorem sat_sat (n : Int) : sat (sat n) = sat n := sat_in (sat_bd n).1 (sat_bd n).2
theorem sat_neg (n : Int) : sat (-n) = -sat n := by
  rcases (show n < -1000000 ∨ 1000000 < n ∨ (-1000000 ≤ n ∧ n ≤ 1000000) by omega) with h | h | ⟨h, h2⟩
  · rw [sat_low h, sat_high (by omega)]; omega
  · rw [sat_high h, sat_low (by omega)]
  · rw [sat_in h h2, sat_in (by omega) (by omega)]
theorem prod_bd {x y : Int} (hx : -1000000 ≤ x ∧ x ≤ 1000000) (hy : -1000000 ≤ y ∧ y ≤ 1000000) : -1000000000000 ≤ x * y ∧ x * y ≤ 1000000000000 := by
  obtain ⟨a, ha⟩ := Int.le.dest hx.1; obtain ⟨b, hb⟩ := Int.le.dest hx.2
  obtain ⟨c, hc⟩ := Int.le.dest hy.1; obtain ⟨d, hd⟩ := Int.le.dest hy.2
  have h1 : 0 ≤ (x + 1000000) * (y + 1000000) := Int.mul_nonneg (by omega) (by omega)
  have h2 : 0 ≤ (1000000 - x) * (1000000 - y) := Int.mul_nonneg (by omega) (by omega)
  have h3 : 0 ≤ (x + 1000000) * (1000000 - y) := Int.mul_nonneg (by omega) (by omega)
  have h4 : 0 ≤ (1000000 - x) * (y + 1000000) := Int.mul_nonneg (by omega) (by omega)
  have e1 : (x + 1000000) * (y + 1000000) = x * y + 1000000 * x + 1000000 * y + 1000000000000 := by
    rw [Int.add_mul, Int.mul_add, Int.mul_add, Int.mul_comm x 1000000]; omega
  have e2 : (1000000 - x) * (1000000 - y) = 1000000000000 - 1000000 * y - 1000000 * x + x * y := by
    rw [Int.sub_mul, Int.mul_sub, Int.mul_sub, Int.mul_comm x 1000000]; omega
  have e3 : (x + 1000000) * (1000000 - y) = 1000000 * x - x * y + 1000000000000 - 1000000 * y := by
    rw [Int.add_mul, Int.mul_sub, Int.mul_sub, Int.mul_comm x 1000000]; omega
  have e4 : (1000000 - x) * (y + 1000000) = 1000000 * y + 1000000000000 - x * y - 1000000 * x := by
    rw [Int.sub_mul, Int.mul_add, Int.mul_add, Int.mul_comm x 1000000]; omega
  omega

/-- The call returns this int and leaves the memory as it was. -/
def Ret (w : World) (x : Int) (e : Ending) (w' : World) : Prop := e = .returned (.int .i64 x) ∧ w = w'
/-- The call returns this bool and leaves the memory as it was. -/
def RetB (w : World) (x : Bool) (e : Ending) (w' : World) : Prop := e = .returned (.bool x) ∧ w = w'

def isVal (n : Int) : Bool := decide (-1000000 ≤ n) && decide (n ≤ 1000000)
theorem isVal_in {n : Int} (h : -1000000 ≤ n) (h2 : n ≤ 1000000) : isVal n = true := by simp [isVal, h, h2]
theorem isVal_out {n : Int} (h : n < -1000000 ∨ 1000000 < n) : isVal n = false := by
  rcases h with h | h
  · simp [isVal, show ¬ -1000000 ≤ n by omega]
  · simp [isVal, show ¬ n ≤ 1000000 by omega]
theorem isVal_iff (n : Int) : isVal n = true ↔ -1000000 ≤ n ∧ n ≤ 1000000 := by simp [isVal]

section program
theorem impl_clamp (a0 a1 a2 : Int) (w : World) : Calls Try.prog 88 #[.int .i64 a0, .int .i64 a1, .int .i64 a2] w (Ret w (clampV a0 a1 a2)) := by
  by_cases h1 : a2 < a1 <;> by_cases h2 : a0 < a1 <;> by_cases h3 : a2 < a0
  all_goals
    have hv : clampV a0 a1 a2 = if a2 < a1 then a1 else if a0 < a1 then a1 else if a2 < a0 then a2 else a0 := rfl
    simp only [h1, h2, h3, if_true, if_false] at hv
    have HV := Lib.hid hv
    clear hv
    go_enter Try.func88, Try.ntmps88
    go_wp2
    go_ret
    exact ⟨ret_int HV.out.symm, rfl⟩
theorem impl_sat (n : Int) (w : World) : Calls Try.prog 61 #[.int .i64 n] w (Ret w (sat n)) := by
  go_enter Try.func61, Try.ntmps61
  go_wp2_with (go_at_call 88; refine (impl_clamp n _ _ _).mono ?_; rintro e w1 ⟨rfl, rfl⟩)
  go_ret
  exact ⟨rfl, rfl⟩
theorem impl_add (a b : Int) (w : World) : Calls Try.prog 32 #[.int .i64 a, .int .i64 b] w (Ret w (sat (sat a + sat b))) := by
  have ha := sat_bd a
  have hb := sat_bd b
  go_enter Try.func32, Try.ntmps32
  go_wp2_with (go_at_call 61; refine (impl_sat _ _).mono ?_; rintro e w1 ⟨rfl, rfl⟩)
  go_ret
  exact ⟨rfl, rfl⟩
theorem impl_sub (a b : Int) (w : World) : Calls Try.prog 105 #[.int .i64 a, .int .i64 b] w (Ret w (sat (sat a - sat b))) := by
  have ha := sat_bd a
  have hb := sat_bd b
  go_enter Try.func105, Try.ntmps105
  go_wp2_with (go_at_call 61; refine (impl_sat _ _).mono ?_; rintro e w1 ⟨rfl, rfl⟩)
  go_ret
  exact ⟨rfl, rfl⟩
theorem impl_mul (a b : Int) (w : World) : Calls Try.prog 106 #[.int .i64 a, .int .i64 b] w (Ret w (sat (sat a * sat b))) := by
  have hp := prod_bd (sat_bd a) (sat_bd b)
  go_enter Try.func106, Try.ntmps106
  go_wp2_with (go_at_call 61; refine (impl_sat _ _).mono ?_; rintro e w1 ⟨rfl, rfl⟩)
  go_ret
  exact ⟨rfl, rfl⟩
theorem impl_isval (n : Int) (w : World) : Calls Try.prog 69 #[.int .i64 n] w (RetB w (isVal n)) := by
  rcases (show n < -1000000 ∨ 1000000 < n ∨ (-1000000 ≤ n ∧ n ≤ 1000000) by omega) with h | h | ⟨h, h2⟩
  · rw [isVal_out (Or.inl h)]
    go_enter Try.func69, Try.ntmps69
    go_wp2
    go_ret
    exact ⟨rfl, rfl⟩
  · rw [isVal_out (Or.inr h)]
    have h' : decide (n ≤ 1000000) = false := by simp; omega
    go_enter Try.func69, Try.ntmps69
    go_wp2
    go_ret
    exact ⟨by simp, rfl⟩
  · rw [isVal_in h h2]
    go_enter Try.func69, Try.ntmps69
    go_wp2
    go_ret
    exact ⟨rfl, rfl⟩
end program

section model
theorem spec_clamp (a0 a1 a2 : Int) (w : World) : Calls Try.prog 87 #[.int .i64 a0, .int .i64 a1, .int .i64 a2] w (Ret w (clampV a0 a1 a2)) := by
  by_cases h1 : a2 < a1 <;> by_cases h2 : a0 < a1 <;> by_cases h3 : a2 < a0
  all_goals
    have hv : clampV a0 a1 a2 = if a2 < a1 then a1 else if a0 < a1 then a1 else if a2 < a0 then a2 else a0 := rfl
    simp only [h1, h2, h3, if_true, if_false] at hv
    have HV := Lib.hid hv
    clear hv
    go_enter Try.func87, Try.ntmps87
    go_wp2
    go_ret
    exact ⟨ret_int HV.out.symm, rfl⟩
theorem spec_sat (n : Int) (w : World) : Calls Try.prog 60 #[.int .i64 n] w (Ret w (sat n)) := by
  go_enter Try.func60, Try.ntmps60
  go_wp2_with (go_at_call 87; refine (spec_clamp n _ _ _).mono ?_; rintro e w1 ⟨rfl, rfl⟩)
  go_ret
  exact ⟨rfl, rfl⟩
theorem spec_add (a b : Int) (w : World) : Calls Try.prog 30 #[.int .i64 a, .int .i64 b] w (Ret w (sat (sat a + sat b))) := by
  have ha := sat_bd a
  have hb := sat_bd b
  go_enter Try.func30, Try.ntmps30
  go_wp2_with (go_at_call 60; refine (spec_sat _ _).mono ?_; rintro e w1 ⟨rfl, rfl⟩)
  go_ret
  exact ⟨rfl, rfl⟩
theorem spec_sub (a b : Int) (w : World) : Calls Try.prog 100 #[.int .i64 a, .int .i64 b] w (Ret w (sat (sat a - sat b))) := by
  have ha := sat_bd a
  have hb := sat_bd b
  go_enter Try.func100, Try.ntmps100
  go_wp2_with (go_at_call 60; refine (spec_sat _ _).mono ?_; rintro e w1 ⟨rfl, rfl⟩)
  go_ret
  exact ⟨rfl, rfl⟩
theorem spec_mul (a b : Int) (w : World) : Calls Try.prog 101 #[.int .i64 a, .int .i64 b] w (Ret w (sat (sat a * sat b))) := by
  have hp := prod_bd (sat_bd a) (sat_bd b)
  go_enter Try.func101, Try.ntmps101
  go_wp2_with (go_at_call 60; refine (spec_sat _ _).mono ?_; rintro e w1 ⟨rfl, rfl⟩)
  go_ret
  exact ⟨rfl, rfl⟩
theorem spec_isval (n : Int) (w : World) : Calls Try.prog 78 #[.int .i64 n] w (RetB w (isVal n)) := by
  rcases (show n < -1000000 ∨ 1000000 < n ∨ (-1000000 ≤ n ∧ n ≤ 1000000) by omega) with h | h | ⟨h, h2⟩
  · rw [isVal_out (Or.inl h)]
    go_enter Try.func78, Try.ntmps78
    go_wp2
    go_ret
    exact ⟨rfl, rfl⟩
  · rw [isVal_out (Or.inr h)]
    have h' : decide (n ≤ 1000000) = false := by simp; omega
    go_enter Try.func78, Try.ntmps78
    go_wp2
    go_ret
    exact ⟨by simp, rfl⟩
  · rw [isVal_in h h2]
    go_enter Try.func78, Try.ntmps78
    go_wp2
    go_ret
    exact ⟨rfl, rfl⟩
end model
end Go.Proofs.Ytndpadnjjbbkkaa.val
