/- Several texts in one: EvalB EvalE. -/
import Derived.Test.YtndpadnjjbbkkaaGHub3
import Derived.Laws.EntriesVeiled

/- Chapter 3's EvalExpr, of the program and of the model: the plain function 'evalV'; nothing that was there is written. -/
namespace Go.Proofs.Ytndpadnjjbbkkaa.expr
open Go.ChangeShapes Go.WideShapes Go.ChangeAt Go.RowKit Go.Proofs.Ytndpadnjjbbkkaa.row Go.Proofs.Ytndpadnjjbbkkaa.val

def bit (b : Bool) : Int := if b then 1 else 0
def evalOf (o A B : Int) : Int :=
  if o = 1 then sat (sat A + sat B) else if o = 2 then sat (sat A - sat B) else if o = 3 then sat (sat A * sat B)
  else if o = 4 then min A B else if o = 5 then max A B else if o = 6 then bit (decide (A < B)) else bit (decide (A = B))
def evalV (L : List Int) (o a b : Int) : Int := if varsOk L && exprOk o a b then evalOf o (valOf L a) (valOf L b) else 0
theorem evalV_no {L : List Int} {o a b : Int} (h : varsOk L = false ∨ exprOk o a b = false) : evalV L o a b = 0 := by
  rcases h with h | h <;> simp [evalV, h]
theorem evalV_ok {L : List Int} {o a b : Int} (h : varsOk L = true) (h2 : exprOk o a b = true) : evalV L o a b = evalOf o (valOf L a) (valOf L b) := by simp [evalV, h, h2]
theorem exprOk_iff (o a b : Int) : exprOk o a b = true ↔ (1 ≤ o ∧ o ≤ 7) ∧ opndOk a = true ∧ opndOk b = true := by simp [exprOk, opOk]

theorem ev1 (A B : Int) : evalOf 1 A B = sat (sat A + sat B) := by simp [evalOf]
theorem ev2 (A B : Int) : evalOf 2 A B = sat (sat A - sat B) := by simp [evalOf]
theorem ev3 (A B : Int) : evalOf 3 A B = sat (sat A * sat B) := by simp [evalOf]
theorem ev4 (A B : Int) : evalOf 4 A B = min A B := by simp [evalOf]
theorem ev5 (A B : Int) : evalOf 5 A B = max A B := by simp [evalOf]
theorem ev6 (A B : Int) : evalOf 6 A B = bit (decide (A < B)) := by simp [evalOf]
theorem ev7 (A B : Int) : evalOf 7 A B = bit (decide (A = B)) := by simp [evalOf]
section model
set_option maxRecDepth 100000 in
theorem spec_bit (b : Bool) (w : World) : Calls Try.prog 102 #[.bool b] w (Ret w (bit b)) := by
  cases b
  · go_enter Try.func102, Try.ntmps102
    go_wp2
    go_ret
    exact ⟨rfl, rfl⟩
  · go_enter Try.func102, Try.ntmps102
    go_wp2
    go_ret
    exact ⟨rfl, rfl⟩
set_option maxHeartbeats 1000000 in
set_option maxRecDepth 100000 in
theorem spec_eval (w : World) (ad : Option Addr) (n cap : Nat) (L : List Int) (h : Row w ad n L) (hv : varsOk L = true) (o a b : Int) (ho : 1 ≤ o ∧ o ≤ 7) (ha : opndOk a = true) (hb : opndOk b = true) :
    Calls Try.prog 79 #[.slice ad n cap, ev o a b] w (BelI w (evalOf o (valOf L a) (valOf L b))) := by
  have HR : Hid (∀ w' : World, Below w.heap.size w w' → Row w' ad n L) := fun w' hb => h.below hb
  have HV := Lib.hid hv
  clear h hv
  rcases (show o = 1 ∨ o = 2 ∨ o = 3 ∨ o = 4 ∨ o = 5 ∨ o = 6 ∨ o = 7 by omega) with rfl | rfl | rfl | rfl | rfl | rfl | rfl
  all_goals
    clear ho
    go_enter Try.func79, Try.ntmps79
    go_wp2_with (first
      | (go_at_call 99; refine (spec_value _ ad n cap L (HR.out _ ((Below.refl _ _).alloc (Nat.le_refl _) _)) HV.out _ (by assumption)).mono ?_; rintro e w1 ⟨rfl, rfl⟩)
      | (go_at_call 30; refine (spec_add _ _ _).mono ?_; rintro e w1 ⟨rfl, rfl⟩)
      | (go_at_call 100; refine (spec_sub _ _ _).mono ?_; rintro e w1 ⟨rfl, rfl⟩)
      | (go_at_call 101; refine (spec_mul _ _ _).mono ?_; rintro e w1 ⟨rfl, rfl⟩)
      | (go_at_call 102; refine (spec_bit _ _).mono ?_; rintro e w1 ⟨rfl, rfl⟩))
    all_goals
      go_ret
      refine ⟨ret_i ?_, (Below.refl _ _).alloc (Nat.le_refl _) _⟩
      first | exact (ev1 _ _).symm | exact (ev2 _ _).symm | exact (ev3 _ _).symm | exact (ev4 _ _).symm | exact (ev5 _ _).symm | exact (ev6 _ _).symm | exact (ev7 _ _).symm | (rw [ev4]; omega) | (rw [ev5]; omega)
end model

section program
set_option maxRecDepth 100000 in
theorem impl_one (b : Bool) (w : World) : Calls Try.prog 135 #[.bool b] w (Ret w (bit b)) := by
  cases b
  · go_enter Try.func135, Try.ntmps135
    go_wp2
    go_ret
    exact ⟨rfl, rfl⟩
  · go_enter Try.func135, Try.ntmps135
    go_wp2
    go_ret
    exact ⟨rfl, rfl⟩
set_option maxRecDepth 100000 in
theorem impl_min (x y : Int) (w : World) : Calls Try.prog 107 #[.int .i64 x, .int .i64 y] w (Ret w (min x y)) := by
  go_enter Try.func107, Try.ntmps107
  go_wp2
  all_goals
    go_ret
    exact ⟨ret_i (by omega), rfl⟩
set_option maxRecDepth 100000 in
theorem impl_max (x y : Int) (w : World) : Calls Try.prog 108 #[.int .i64 x, .int .i64 y] w (Ret w (max x y)) := by
  go_enter Try.func108, Try.ntmps108
  go_wp2
  all_goals
    go_ret
    exact ⟨ret_i (by omega), rfl⟩
set_option maxRecDepth 100000 in
theorem impl_less (x y : Int) (w : World) : Calls Try.prog 109 #[.int .i64 x, .int .i64 y] w (Ret w (bit (decide (x < y)))) := by
  go_enter Try.func109, Try.ntmps109
  go_wp2_with (go_at_call 135; refine (impl_one _ _).mono ?_; rintro e w1 ⟨rfl, rfl⟩)
  go_ret
  exact ⟨rfl, rfl⟩
set_option maxRecDepth 100000 in
theorem impl_same (x y : Int) (w : World) : Calls Try.prog 110 #[.int .i64 x, .int .i64 y] w (Ret w (bit (decide (x = y)))) := by
  go_enter Try.func110, Try.ntmps110
  go_wp2_with (go_at_call 135; refine (impl_one _ _).mono ?_; rintro e w1 ⟨rfl, rfl⟩)
  go_ret
  exact ⟨rfl, rfl⟩
abbrev opsV : Value := .agg #[.nilFunc, .func (.func 32) #[] #[], .func (.func 105) #[] #[], .func (.func 106) #[] #[],
  .func (.func 107) #[] #[], .func (.func 108) #[] #[], .func (.func 109) #[] #[], .func (.func 110) #[] #[]]
set_option maxRecDepth 100000 in
theorem impl_ops (w : World) : Calls Try.prog 81 #[] w fun e w' => e = .returned opsV ∧ Below w.heap.size w w' := by
  go_enter Try.func81, Try.ntmps81
  go_wp2
  refine bodyPost_ret (v := opsV) (by simp [results, Try.results81, go_sem]) rfl ⟨rfl, (Below.refl _ _).alloc (Nat.le_refl _) _⟩
end program
end Go.Proofs.Ytndpadnjjbbkkaa.expr

/- The value of an expression is a value. Plain mathematics. -/
namespace Go.Proofs.Ytndpadnjjbbkkaa.expr
open Go.ChangeShapes Go.WideShapes Go.ChangeAt Go.RowKit Go.Proofs.Ytndpadnjjbbkkaa.row Go.Proofs.Ytndpadnjjbbkkaa.val

theorem sat_val (n : Int) : isVal (sat n) = true := isVal_in (sat_bd n).1 (sat_bd n).2
theorem bit_val (b : Bool) : isVal (bit b) = true := by cases b <;> rfl
theorem valOf_val {L : List Int} (h : varsOk L = true) {m : Int} (hm : opndOk m = true) : isVal (valOf L m) = true := by
  have hb := (opndOk_iff m).1 hm
  unfold valOf
  split
  · rename_i h0
    obtain ⟨h1, _⟩ := opnd_at h hm h0
    rw [List.getD_eq_getElem?_getD, List.getElem?_eq_getElem h1]
    exact ((varsOk_iff L).1 h).2 _ (List.getElem_mem h1)
  · exact isVal_in (by omega) (by omega)
theorem evalOf_val {o A B : Int} (hA : isVal A = true) (hB : isVal B = true) : isVal (evalOf o A B) = true := by
  have a := (isVal_iff A).1 hA
  have b := (isVal_iff B).1 hB
  unfold evalOf
  split
  · exact sat_val _
  split
  · exact sat_val _
  split
  · exact sat_val _
  split
  · exact isVal_in (by omega) (by omega)
  split
  · exact isVal_in (by omega) (by omega)
  split
  · exact bit_val _
  · exact bit_val _
theorem evalV_val (L : List Int) (o a b : Int) : isVal (evalV L o a b) = true := by
  unfold evalV
  split
  · rename_i h
    rw [Bool.and_eq_true] at h
    obtain ⟨_, ha, hb⟩ := (exprOk_iff o a b).1 h.2
    exact evalOf_val (valOf_val h.1 ha) (valOf_val h.1 hb)
  · rfl
end Go.Proofs.Ytndpadnjjbbkkaa.expr
