/- Chapter 2's functions, of the program and of the model: each returns the clamped number, sum, difference or product, and writes nothing; no condition. -/
import Derived.Test.YtmgeecdgebemdaaRows
import Derived.WalkKit
import Derived.ProofKit
import Derived.OpenShut
import Derived.Lib.Hide
import Derived.Below
namespace Go.Proofs.Ytmgeecdgebemdaa.val
open Go.ChangeShapes Go.WideShapes Go.ChangeAt Go.RowKit

theorem ret_int {k : IntKind} {a b : Int} (h : a = b) : Ending.returned (.int k a) = .returned (.int k b) := by rw [h]
def clampV (n low high : Int) : Int := if high < low then low else if n < low then low else if high < n then high else n
def sat (n : Int) : Int := clampV n (-1000000) 1000000
theorem sat_low {n : Int} (h : n < -1000000) : sat n = -1000000 := by unfold sat clampV; rw [if_neg (by omega), if_pos h]
theorem sat_high {n : Int} (h : 1000000 < n) : sat n = 1000000 := by unfold sat clampV; rw [if_neg (by omega), if_neg (by omega), if_pos h]
theorem sat_in {n : Int} (h : -1000000 ≤ n) (h2 : n ≤ 1000000) : sat n = n := by unfold sat clampV; rw [if_neg (by omega), if_neg (by omega), if_neg (by omega)]
theorem sat_bd (n : Int) : -1000000 ≤ sat n ∧ sat n ≤ 1000000 := by
  rcases (show n < -1000000 ∨ 1000000 < n ∨ (-1000000 ≤ n ∧ n ≤ 1000000) by omega) with h | h | ⟨h, h2⟩
  · rw [sat_low h]; omega
  · rw [sat_high h]; omega
  · rw [sat_in h h2]; omega
theorem sat_sat (n : Int) : sat (sat n) = sat n := sat_in (sat_bd n).1 (sat_bd n).2
theorem sat_neg (n : Int) : sat (-n) = -sat n := by
  rcases (show n < -1000000 ∨ 1000000 < n ∨ (-1000000 ≤ n ∧ n ≤ 1000000) by omega) with h | h | ⟨h, h2⟩
  · rw [sat_low h, sat_high (by omega)]; omega
  · rw [sat_high h, sat_low (by omega)]
  · rw [sat_in h h2, sat_in (by omega) (by omega)]
theorem prod_bd {x y : Int} (hx : -1000000 ≤ x ∧ x ≤ 1000000) (hy : -1000000 ≤ y ∧ y ≤ 1000000) : -1000000000000 ≤ x * y ∧ x * y ≤ 1000000000000 := by
  obtain ⟨a, ha⟩ := Int.le.dest hx.1; obtain ⟨b, hb⟩ := Int.le.dest hx.2
  obtain ⟨c, hc⟩ := Int.le.dest hy.1; obtain ⟨d, hd⟩ := Int.le.dest hy.2
  have h1 : 0 ≤ (x + 1000000) * (y + 1000000) := Int.mul_nonneg (by omega) (by omega)
  have h2 : 0 ≤ (1000000 - x) * (1000000 - y) := Int.mul_nonneg (by omega) (by omega)
  have h3 : 0 ≤ (x + 1000000) * (1000000 - y) := Int.mul_nonneg (by omega) (by omega)
  have h4 : 0 ≤ (1000000 - x) * (y + 1000000) := Int.mul_nonneg (by omega) (by omega)
  have e1 : (x + 1000000) * (y + 1000000) = x * y + 1000000 * x + 1000000 * y + 1000000000000 := by
    rw [Int.add_mul, Int.mul_add, Int.mul_add, Int.mul_comm x 1000000]; omega
  have e2 : (1000000 - x) * (1000000 - y) = 1000000000000 - 1000000 * y - 1000000 * x + x * y := by
    rw [Int.sub_mul, Int.mul_sub, Int.mul_sub, Int.mul_comm x 1000000]; omega
  have e3 : (x + 1000000) * (1000000 - y) = 1000000 * x - x * y + 1000000000000 - 1000000 * y := by
    rw [Int.add_mul, Int.mul_sub, Int.mul_sub, Int.mul_comm x 1000000]; omega
  have e4 : (1000000 - x) * (y + 1000000) = 1000000 * y + 1000000000000 - x * y - 1000000 * x := by
    rw [Int.sub_mul, Int.mul_add, Int.mul_add, Int.mul_comm x 1000000]; omega
  omega

/-- The call returns this int and leaves the memory as it was. -/
def Ret (w : World) (x : Int) (e : Ending) (w' : World) : Prop := e = .returned (.int .i64 x) ∧ w = w'
/-- The call returns this bool and leaves the memory as it was. -/
def RetB (w : World) (x : Bool) (e : Ending) (w' : World) : Prop := e = .returned (.bool x) ∧ w = w'

def isVal (n : Int) : Bool := decide (-1000000 ≤ n) && decide (n ≤ 1000000)
theorem isVal_in {n : Int} (h : -1000000 ≤ n) (h2 : n ≤ 1000000) : isVal n = true := by simp [isVal, h, h2]
theorem isVal_out {n : Int} (h : n < -1000000 ∨ 1000000 < n) : isVal n = false := by
  rcases h with h | h
  · simp [isVal, show ¬ -1000000 ≤ n by omega]
  · simp [isVal, show ¬ n ≤ 1000000 by omega]
theorem isVal_iff (n : Int) : isVal n = true ↔ -1000000 ≤ n ∧ n ≤ 1000000 := by simp [isVal]

section program
end program

section model
end model
end Go.Proofs.Ytmgeecdgebemdaa.val
