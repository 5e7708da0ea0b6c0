/- Chapter 3's functions up to EvalExpr, of the program and of the model: each returns what the plain functions here say, and writes nothing that was there; no condition but that a row of variables reads as a list. -/
import Derived.Test.YtmgeecdgebemdaaInts
import Derived.Test.YtmgeecdgebemdaaVal
namespace Go.Proofs.Ytmgeecdgebemdaa.expr
open Go.ChangeShapes Go.WideShapes Go.ChangeAt Go.RowKit Go.Proofs.Ytmgeecdgebemdaa.row Go.Proofs.Ytmgeecdgebemdaa.val

def opndOk (n : Int) : Bool := decide (-8 ≤ n) && decide (n ≤ 999)
theorem opndOk_iff (n : Int) : opndOk n = true ↔ -8 ≤ n ∧ n ≤ 999 := by simp [opndOk]
theorem opndOk_no (n : Int) : opndOk n = false ↔ n < -8 ∨ 999 < n := by
  rw [← Bool.not_eq_true, opndOk_iff]; omega
def opOk (n : Int) : Bool := decide (1 ≤ n) && decide (n ≤ 7)
theorem opOk_iff (n : Int) : opOk n = true ↔ 1 ≤ n ∧ n ≤ 7 := by simp [opOk]
theorem opOk_no (n : Int) : opOk n = false ↔ n < 1 ∨ 7 < n := by
  rw [← Bool.not_eq_true, opOk_iff]; omega
def exprOk (o a b : Int) : Bool := opOk o && (opndOk a && opndOk b)
def varsOk (L : List Int) : Bool := decide (L.length = 8) && L.all isVal
theorem varsOk_iff (L : List Int) : varsOk L = true ↔ L.length = 8 ∧ ∀ x ∈ L, isVal x = true := by simp [varsOk]
def valOf (L : List Int) (n : Int) : Int := if n < 0 then L.getD (-1 - n).toNat 0 else n
def opndVal (L : List Int) (n : Int) : Int := if opndOk n && varsOk L then valOf L n else 0

/-- The call returns this bool; nothing that was there is written. -/
def BelB (w : World) (x : Bool) (e : Ending) (w' : World) : Prop := e = .returned (.bool x) ∧ Below w.heap.size w w'
/-- The call returns this int; nothing that was there is written. -/
def BelI (w : World) (x : Int) (e : Ending) (w' : World) : Prop := e = .returned (.int .i64 x) ∧ Below w.heap.size w w'
/-- An expression as a value. -/
abbrev ev (o a b : Int) : Value := .agg #[.int .i64 o, .int .i64 a, .int .i64 b]

section operands
end operands

section variables_
theorem all_step {L : List Int} {k : Nat} {x : Int} (hx : L[k]? = some x) (h : ∀ y ∈ L.take k, isVal y = true) (hv : isVal x = true) : ∀ y ∈ L.take (k + 1), isVal y = true := by
  intro y hy
  rw [List.take_add_one, hx, List.mem_append] at hy
  rcases hy with hy | hy
  · exact h y hy
  · simp at hy; rw [hy]; exact hv
theorem varsOk_bad {L : List Int} {k : Nat} {x : Int} (hx : L[k]? = some x) (hv : isVal x = false) : varsOk L = false := by
  rw [← Bool.not_eq_true, varsOk_iff]
  rintro ⟨_, h⟩
  rw [h x (List.mem_of_getElem? hx)] at hv; cases hv
theorem varsOk_end {L : List Int} {n : Nat} (hl : L.length = n) (h : ∀ y ∈ L.take n, isVal y = true) : varsOk L = decide ((n : Int) = 8) := by
  rw [List.take_of_length_le (by omega)] at h
  by_cases h8 : n = 8
  · rw [(varsOk_iff L).2 ⟨by omega, h⟩]; simp [h8]
  · have : ¬ (n : Int) = 8 := by omega
    rw [decide_eq_false this, ← Bool.not_eq_true, varsOk_iff]; omega

theorem all_bad {L : List Int} {k : Nat} {x : Int} (hx : L[k]? = some x) (hv : isVal x = false) : L.all isVal = false := by
  rw [← Bool.not_eq_true, List.all_eq_true]
  intro h
  rw [h x (List.mem_of_getElem? hx)] at hv; cases hv
theorem all_end {L : List Int} {n : Nat} (hl : L.length = n) (h : ∀ y ∈ L.take n, isVal y = true) : L.all isVal = true := by
  rw [List.take_of_length_le (by omega)] at h
  rw [List.all_eq_true]; exact h
theorem opnd_at {L : List Int} (h : varsOk L = true) {n : Int} (h1 : opndOk n = true) (h2 : n < 0) : (-1 - n).toNat < L.length ∧ ((-1 - n).toNat : Int) = -1 - n := by
  have := (varsOk_iff L).1 h
  have := (opndOk_iff n).1 h1
  omega
end variables_
end Go.Proofs.Ytmgeecdgebemdaa.expr
