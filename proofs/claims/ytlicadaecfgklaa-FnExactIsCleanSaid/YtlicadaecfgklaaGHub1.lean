/- Several texts in one: Val Expr. -/
import Derived.Test.YtlicadaecfgklaaRows
import Derived.WalkKit
import Derived.ProofKit
import Derived.OpenShut
import Derived.Lib.Hide
import Derived.Below
import Derived.Test.YtlicadaecfgklaaGHub0

/- Chapter 2's functions, of the program and of the model: each returns the clamped number, sum, difference or product, and writes nothing; no condition. -/
namespace Go.Proofs.Ytlicadaecfgklaa.val
open Go.ChangeShapes Go.WideShapes Go.ChangeAt Go.RowKit

theorem ret_int {k : IntKind} {a b : Int} (h : a = b) : Ending.returned (.int k a) = .returned (.int k b) := by rw [h]
def clampV (n low high : Int) : Int := if high < low then low else if n < low then low else if high < n then high else n
def sat (n : Int) : Int := clampV n (-1000000) 1000000
theorem sat_low {n : Int} (h : n < -1000000) : sat n = -1000000 := by unfold sat clampV; rw [if_neg (by omega), if_pos h]
theorem sat_high {n : Int} (h : 1000000 < n) : sat n = 1000000 := by unfold sat clampV; rw [if_neg (by omega), if_neg (by omega), if_pos h]
theorem sat_in {n : Int} (h : -1000000 ≤ n) (h2 : n ≤ 1000000) : sat n = n := by unfold sat clampV; rw [if_neg (by omega), if_neg (by omega), if_neg (by omega)]
theorem sat_bd (n : Int) : -1000000 ≤ sat n ∧ sat n ≤ 1000000 := by
  rcases (show n < -1000000 ∨ 1000000 < n ∨ (-1000000 ≤ n ∧ n ≤ 1000000) by omega) with h | h | ⟨h, h2⟩
  · rw [sat_low h]; omega
  · rw [sat_high h]; omega
  · rw [sat_in h h2]; omega
theorem sat_sat (n : Int) : sat (sat n) = sat n := sat_in (sat_bd n).1 (sat_bd n).2
theorem sat_neg (n : Int) : sat (-n) = -sat n := by
  rcases (show n < -1000000 ∨ 1000000 < n ∨ (-1000000 ≤ n ∧ n ≤ 1000000) by omega) with h | h | ⟨h, h2⟩
  · rw [sat_low h, sat_high (by omega)]; omega
  · rw [sat_high h, sat_low (by omega)]
  · rw [sat_in h h2, sat_in (by omega) (by omega)]
theorem prod_bd {x y : Int} (hx : -1000000 ≤ x ∧ x ≤ 1000000) (hy : -1000000 ≤ y ∧ y ≤ 1000000) : -1000000000000 ≤ x * y ∧ x * y ≤ 1000000000000 := by
  obtain ⟨a, ha⟩ := Int.le.dest hx.1; obtain ⟨b, hb⟩ := Int.le.dest hx.2
  obtain ⟨c, hc⟩ := Int.le.dest hy.1; obtain ⟨d, hd⟩ := Int.le.dest hy.2
  have h1 : 0 ≤ (x + 1000000) * (y + 1000000) := Int.mul_nonneg (by omega) (by omega)
  have h2 : 0 ≤ (1000000 - x) * (1000000 - y) := Int.mul_nonneg (by omega) (by omega)
  have h3 : 0 ≤ (x + 1000000) * (1000000 - y) := Int.mul_nonneg (by omega) (by omega)
  have h4 : 0 ≤ (1000000 - x) * (y + 1000000) := Int.mul_nonneg (by omega) (by omega)
  have e1 : (x + 1000000) * (y + 1000000) = x * y + 1000000 * x + 1000000 * y + 1000000000000 := by
    rw [Int.add_mul, Int.mul_add, Int.mul_add, Int.mul_comm x 1000000]; omega
  have e2 : (1000000 - x) * (1000000 - y) = 1000000000000 - 1000000 * y - 1000000 * x + x * y := by
    rw [Int.sub_mul, Int.mul_sub, Int.mul_sub, Int.mul_comm x 1000000]; omega
  have e3 : (x + 1000000) * (1000000 - y) = 1000000 * x - x * y + 1000000000000 - 1000000 * y := by
    rw [Int.add_mul, Int.mul_sub, Int.mul_sub, Int.mul_comm x 1000000]; omega
  have e4 : (1000000 - x) * (y + 1000000) = 1000000 * y + 1000000000000 - x * y - 1000000 * x := by
    rw [Int.sub_mul, Int.mul_add, Int.mul_add, Int.mul_comm x 1000000]; omega
  omega

/-- The call returns this int and leaves the memory as it was. -/
def Ret (w : World) (x : Int) (e : Ending) (w' : World) : Prop := e = .returned (.int .i64 x) ∧ w = w'
/-- The call returns this bool and leaves the memory as it was. -/
def RetB (w : World) (x : Bool) (e : Ending) (w' : World) : Prop := e = .returned (.bool x) ∧ w = w'

def isVal (n : Int) : Bool := decide (-1000000 ≤ n) && decide (n ≤ 1000000)
theorem isVal_in {n : Int} (h : -1000000 ≤ n) (h2 : n ≤ 1000000) : isVal n = true := by simp [isVal, h, h2]
theorem isVal_out {n : Int} (h : n < -1000000 ∨ 1000000 < n) : isVal n = false := by
  rcases h with h | h
  · simp [isVal, show ¬ -1000000 ≤ n by omega]
  · simp [isVal, show ¬ n ≤ 1000000 by omega]
theorem isVal_iff (n : Int) : isVal n = true ↔ -1000000 ≤ n ∧ n ≤ 1000000 := by simp [isVal]

section program
theorem impl_clamp (a0 a1 a2 : Int) (w : World) : Calls Try.prog 50 #[.int .i64 a0, .int .i64 a1, .int .i64 a2] w (Ret w (clampV a0 a1 a2)) := by
  by_cases h1 : a2 < a1 <;> by_cases h2 : a0 < a1 <;> by_cases h3 : a2 < a0
  all_goals
    have hv : clampV a0 a1 a2 = if a2 < a1 then a1 else if a0 < a1 then a1 else if a2 < a0 then a2 else a0 := rfl
    simp only [h1, h2, h3, if_true, if_false] at hv
    have HV := Lib.hid hv
    clear hv
    go_enter Try.func50, Try.ntmps50
    go_wp2
    go_ret
    exact ⟨ret_int HV.out.symm, rfl⟩
theorem impl_isval (n : Int) (w : World) : Calls Try.prog 57 #[.int .i64 n] w (RetB w (isVal n)) := by
  rcases (show n < -1000000 ∨ 1000000 < n ∨ (-1000000 ≤ n ∧ n ≤ 1000000) by omega) with h | h | ⟨h, h2⟩
  · rw [isVal_out (Or.inl h)]
    go_enter Try.func57, Try.ntmps57
    go_wp2
    go_ret
    exact ⟨rfl, rfl⟩
  · rw [isVal_out (Or.inr h)]
    have h' : decide (n ≤ 1000000) = false := by simp; omega
    go_enter Try.func57, Try.ntmps57
    go_wp2
    go_ret
    exact ⟨by simp, rfl⟩
  · rw [isVal_in h h2]
    go_enter Try.func57, Try.ntmps57
    go_wp2
    go_ret
    exact ⟨rfl, rfl⟩
end program

section model
theorem spec_isval (n : Int) (w : World) : Calls Try.prog 39 #[.int .i64 n] w (RetB w (isVal n)) := by
  rcases (show n < -1000000 ∨ 1000000 < n ∨ (-1000000 ≤ n ∧ n ≤ 1000000) by omega) with h | h | ⟨h, h2⟩
  · rw [isVal_out (Or.inl h)]
    go_enter Try.func39, Try.ntmps39
    go_wp2
    go_ret
    exact ⟨rfl, rfl⟩
  · rw [isVal_out (Or.inr h)]
    have h' : decide (n ≤ 1000000) = false := by simp; omega
    go_enter Try.func39, Try.ntmps39
    go_wp2
    go_ret
    exact ⟨by simp, rfl⟩
  · rw [isVal_in h h2]
    go_enter Try.func39, Try.ntmps39
    go_wp2
    go_ret
    exact ⟨rfl, rfl⟩
end model
end Go.Proofs.Ytlicadaecfgklaa.val

/- Chapter 3's functions up to EvalExpr, of the program and of the model: each returns what the plain functions here say, and writes nothing that was there; no condition but that a row of variables reads as a list. -/
namespace Go.Proofs.Ytlicadaecfgklaa.expr
open Go.ChangeShapes Go.WideShapes Go.ChangeAt Go.RowKit Go.Proofs.Ytlicadaecfgklaa.row Go.Proofs.Ytlicadaecfgklaa.val

def opndOk (n : Int) : Bool := decide (-8 ≤ n) && decide (n ≤ 999)
theorem opndOk_iff (n : Int) : opndOk n = true ↔ -8 ≤ n ∧ n ≤ 999 := by simp [opndOk]
theorem opndOk_no (n : Int) : opndOk n = false ↔ n < -8 ∨ 999 < n := by
  rw [← Bool.not_eq_true, opndOk_iff]; omega
def opOk (n : Int) : Bool := decide (1 ≤ n) && decide (n ≤ 7)
theorem opOk_iff (n : Int) : opOk n = true ↔ 1 ≤ n ∧ n ≤ 7 := by simp [opOk]
theorem opOk_no (n : Int) : opOk n = false ↔ n < 1 ∨ 7 < n := by
  rw [← Bool.not_eq_true, opOk_iff]; omega
def exprOk (o a b : Int) : Bool := opOk o && (opndOk a && opndOk b)
def varsOk (L : List Int) : Bool := decide (L.length = 8) && L.all isVal
theorem varsOk_iff (L : List Int) : varsOk L = true ↔ L.length = 8 ∧ ∀ x ∈ L, isVal x = true := by simp [varsOk]
def valOf (L : List Int) (n : Int) : Int := if n < 0 then L.getD (-1 - n).toNat 0 else n
def opndVal (L : List Int) (n : Int) : Int := if opndOk n && varsOk L then valOf L n else 0

/-- The call returns this bool; nothing that was there is written. -/
def BelB (w : World) (x : Bool) (e : Ending) (w' : World) : Prop := e = .returned (.bool x) ∧ Below w.heap.size w w'
/-- The call returns this int; nothing that was there is written. -/
def BelI (w : World) (x : Int) (e : Ending) (w' : World) : Prop := e = .returned (.int .i64 x) ∧ Below w.heap.size w w'
/-- An expression as a value. -/
abbrev ev (o a b : Int) : Value := .agg #[.int .i64 o, .int .i64 a, .int .i64 b]

section operands
theorem in_any (n lo hi : Int) (r : Bool) (hr : (decide (lo ≤ n) && decide (n ≤ hi)) = r) (w : World) : Calls Try.prog 26 #[.int .i64 n, .int .i64 lo, .int .i64 hi] w (RetB w r) := by
  subst hr
  rcases (show n < lo ∨ hi < n ∧ lo ≤ n ∨ (lo ≤ n ∧ n ≤ hi) by omega) with h | ⟨h, h2⟩ | ⟨h, h2⟩
  · have h' : ¬ lo ≤ n := by omega
    simp only [h', decide_false, Bool.false_and]
    go_enter Try.func26, Try.ntmps26
    go_wp2
    go_ret
    exact ⟨rfl, rfl⟩
  · have h' : ¬ n ≤ hi := by omega
    have h3 : decide (n ≤ hi) = false := by simp; omega
    simp only [h', decide_false, Bool.and_false]
    go_enter Try.func26, Try.ntmps26
    go_wp2
    go_ret
    exact ⟨rfl, rfl⟩
  · simp only [h, h2, decide_true, Bool.and_true]
    go_enter Try.func26, Try.ntmps26
    go_wp2
    go_ret
    exact ⟨rfl, rfl⟩
theorem spec_opnd (n : Int) (r : Bool) (hr : opndOk n = r) (w : World) : Calls Try.prog 62 #[.int .i64 n] w (RetB w r) := by
  have HR : Hid (opndOk n = r) := hr
  clear hr
  go_enter Try.func62, Try.ntmps62
  go_wp2_with (go_at_call 26; refine (in_any _ _ _ r HR.out _).mono ?_; rintro e w1 ⟨rfl, rfl⟩)
  go_ret
  exact ⟨rfl, rfl⟩
theorem impl_opnd (n : Int) (r : Bool) (hr : opndOk n = r) (w : World) : Calls Try.prog 73 #[.int .i64 n] w (RetB w r) := by
  subst hr
  rcases (show n < -8 ∨ 999 < n ∨ (-8 ≤ n ∧ n ≤ 999) by omega) with h | h | ⟨h, h2⟩
  · rw [(opndOk_no n).2 (Or.inl h)]
    go_enter Try.func73, Try.ntmps73
    go_wp2
    go_ret
    exact ⟨rfl, rfl⟩
  · rw [(opndOk_no n).2 (Or.inr h)]
    have h' : decide (n ≤ 999) = false := by simp; omega
    go_enter Try.func73, Try.ntmps73
    go_wp2
    go_ret
    exact ⟨by simp, rfl⟩
  · rw [(opndOk_iff n).2 ⟨h, h2⟩]
    go_enter Try.func73, Try.ntmps73
    go_wp2
    go_ret
    exact ⟨rfl, rfl⟩
end operands

section variables_
theorem all_step {L : List Int} {k : Nat} {x : Int} (hx : L[k]? = some x) (h : ∀ y ∈ L.take k, isVal y = true) (hv : isVal x = true) : ∀ y ∈ L.take (k + 1), isVal y = true := by
  intro y hy
  rw [List.take_add_one, hx, List.mem_append] at hy
  rcases hy with hy | hy
  · exact h y hy
  · simp at hy; rw [hy]; exact hv
theorem varsOk_bad {L : List Int} {k : Nat} {x : Int} (hx : L[k]? = some x) (hv : isVal x = false) : varsOk L = false := by
  rw [← Bool.not_eq_true, varsOk_iff]
  rintro ⟨_, h⟩
  rw [h x (List.mem_of_getElem? hx)] at hv; cases hv
theorem varsOk_end {L : List Int} {n : Nat} (hl : L.length = n) (h : ∀ y ∈ L.take n, isVal y = true) : varsOk L = decide ((n : Int) = 8) := by
  rw [List.take_of_length_le (by omega)] at h
  by_cases h8 : n = 8
  · rw [(varsOk_iff L).2 ⟨by omega, h⟩]; simp [h8]
  · have : ¬ (n : Int) = 8 := by omega
    rw [decide_eq_false this, ← Bool.not_eq_true, varsOk_iff]; omega

theorem all_bad {L : List Int} {k : Nat} {x : Int} (hx : L[k]? = some x) (hv : isVal x = false) : L.all isVal = false := by
  rw [← Bool.not_eq_true, List.all_eq_true]
  intro h
  rw [h x (List.mem_of_getElem? hx)] at hv; cases hv
theorem all_end {L : List Int} {n : Nat} (hl : L.length = n) (h : ∀ y ∈ L.take n, isVal y = true) : L.all isVal = true := by
  rw [List.take_of_length_le (by omega)] at h
  rw [List.all_eq_true]; exact h
set_option maxHeartbeats 400000 in
set_option maxRecDepth 100000 in
theorem impl_are (w : World) (a : Option Addr) (n cap : Nat) (L : List Int) (hn : (n : Int) ≤ 1048576) (h : Row w a n L) (r : Bool) (hr : L.all isVal = r) :
    Calls Try.prog 44 #[.slice a n cap] w (RetB w r) := by
  subst hr
  have HL := Lib.hid h.1
  have HC : Hid (∀ k, k < n → ∃ (b off : Nat) (x : Int), a = some ⟨b, off, none⟩ ∧ L[k]? = some x ∧ w.cell? ⟨b, off + k, none⟩ = some (.int .i64 x)) := fun k hk => by
    obtain ⟨b, off, x, e, _, hx, hc⟩ := h.2 k hk
    exact ⟨b, off, x, e, hx, hc⟩
  clear h
  go_enter Try.func44, Try.ntmps44
  go_wp2
  go_loop [4, 7] (fun _ i => ∃ k : Nat, k ≤ n ∧ i = .int .i64 k ∧ Hid (∀ y ∈ L.take k, isVal y = true)) (fun _ i => n - (intOf i).toNat)
  case atStart => exact ⟨0, Nat.zero_le _, rfl, by simp [Hid]⟩
  case round =>
    obtain ⟨k, hk, rfl, hA⟩ := hrel
    by_cases hlt : k < n
    · obtain ⟨b, off, x, rfl, hx, hc⟩ := HC.out k hlt
      have hI : (k : Int) < n := by omega
      have HX := Lib.hid hx
      clear hx
      cases hv : isVal x
      · have HF := Lib.hid (all_bad HX.out hv)
        go_wp2_with (go_at_call 57; refine (impl_isval _ _).mono ?_; rintro e w1 ⟨rfl, rfl⟩)
        go_ret
        exact ⟨by rw [HF.out]; rfl, rfl⟩
      · have HA2 := Lib.hid (all_step HX.out hA.out hv)
        go_wp2_with (go_at_call 57; refine (impl_isval _ _).mono ?_; rintro e w1 ⟨rfl, rfl⟩)
        go_round
        case rel => exact ⟨k + 1, by omega, by go_num, HA2⟩
        case measure => simp [intOf]; omega
    · have hkn : k = n := by omega
      subst hkn
      have HE := Lib.hid (all_end HL.out hA.out)
      clear hA
      go_wp2
      go_ret
      exact ⟨by rw [HE.out]; rfl, rfl⟩
set_option maxHeartbeats 400000 in
set_option maxRecDepth 100000 in
theorem impl_vars (w : World) (a : Option Addr) (n cap : Nat) (L : List Int) (hn : (n : Int) ≤ 1048576) (h : Row w a n L) (r : Bool) (hr : varsOk L = r) :
    Calls Try.prog 43 #[.slice a n cap] w (RetB w r) := by
  have HL := h.1
  by_cases h8 : n = 8
  · subst h8
    have HR := Lib.hid (show L.all isVal = r by rw [← hr]; simp [varsOk, HL])
    have HH := Lib.hid h
    clear h HL hr
    go_enter Try.func43, Try.ntmps43
    go_wp2_with (go_at_call 44; refine (impl_are _ _ _ _ L hn HH.out r HR.out).mono ?_; rintro e w1 ⟨rfl, rfl⟩)
    go_ret
    exact ⟨rfl, rfl⟩
  · have h8' : ¬ (n : Int) = 8 := by omega
    have HF : Hid (varsOk L = false) := by
      show varsOk L = false
      rw [← Bool.not_eq_true, varsOk_iff]; omega
    rw [HF.out] at hr
    subst hr
    clear HL
    go_enter Try.func43, Try.ntmps43
    go_wp2
    go_ret
    exact ⟨rfl, rfl⟩
theorem opnd_at {L : List Int} (h : varsOk L = true) {n : Int} (h1 : opndOk n = true) (h2 : n < 0) : (-1 - n).toNat < L.length ∧ ((-1 - n).toNat : Int) = -1 - n := by
  have := (varsOk_iff L).1 h
  have := (opndOk_iff n).1 h1
  omega
end variables_
end Go.Proofs.Ytlicadaecfgklaa.expr
