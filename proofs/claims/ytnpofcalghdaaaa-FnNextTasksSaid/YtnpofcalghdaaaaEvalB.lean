/- Chapter 3's EvalExpr, of the program and of the model: the plain function 'evalV'; nothing that was there is written. -/
import Derived.Test.YtnpofcalghdaaaaEval
import Derived.Laws.EntriesVeiled
namespace Go.Proofs.Ytnpofcalghdaaaa.expr
open Go.ChangeShapes Go.WideShapes Go.ChangeAt Go.RowKit Go.Proofs.Ytnpofcalghdaaaa.row Go.Proofs.Ytnpofcalghdaaaa.val

def bit (b : Bool) : Int := if b then 1 else 0
def evalOf (o A B : Int) : Int :=
  if o = 1 then sat (sat A + sat B) else if o = 2 then sat (sat A - sat B) else if o = 3 then sat (sat A * sat B)
  else if o = 4 then min A B else if o = 5 then max A B else if o = 6 then bit (decide (A < B)) else bit (decide (A = B))
def evalV (L : List Int) (o a b : Int) : Int := if varsOk L && exprOk o a b then evalOf o (valOf L a) (valOf L b) else 0
theorem evalV_no {L : List Int} {o a b : Int} (h : varsOk L = false ∨ exprOk o a b = false) : evalV L o a b = 0 := by
  rcases h with h | h <;> simp [evalV, h]
theorem evalV_ok {L : List Int} {o a b : Int} (h : varsOk L = true) (h2 : exprOk o a b = true) : evalV L o a b = evalOf o (valOf L a) (valOf L b) := by simp [evalV, h, h2]
theorem exprOk_iff (o a b : Int) : exprOk o a b = true ↔ (1 ≤ o ∧ o ≤ 7) ∧ opndOk a = true ∧ opndOk b = true := by simp [exprOk, opOk]

theorem ev1 (A B : Int) : evalOf 1 A B = sat (sat A + sat B) := by simp [evalOf]
theorem ev2 (A B : Int) : evalOf 2 A B = sat (sat A - sat B) := by simp [evalOf]
theorem ev3 (A B : Int) : evalOf 3 A B = sat (sat A * sat B) := by simp [evalOf]
theorem ev4 (A B : Int) : evalOf 4 A B = min A B := by simp [evalOf]
theorem ev5 (A B : Int) : evalOf 5 A B = max A B := by simp [evalOf]
theorem ev6 (A B : Int) : evalOf 6 A B = bit (decide (A < B)) := by simp [evalOf]
theorem ev7 (A B : Int) : evalOf 7 A B = bit (decide (A = B)) := by simp [evalOf]
section model
set_option maxRecDepth 100000 in
theorem spec_bit (b : Bool) (w : World) : Calls Try.prog 63 #[.bool b] w (Ret w (bit b)) := by
  cases b
  · go_enter Try.func63, Try.ntmps63
    go_wp2
    go_ret
    exact ⟨rfl, rfl⟩
  · go_enter Try.func63, Try.ntmps63
    go_wp2
    go_ret
    exact ⟨rfl, rfl⟩
set_option maxHeartbeats 1000000 in
set_option maxRecDepth 100000 in
theorem spec_eval (w : World) (ad : Option Addr) (n cap : Nat) (L : List Int) (h : Row w ad n L) (hv : varsOk L = true) (o a b : Int) (ho : 1 ≤ o ∧ o ≤ 7) (ha : opndOk a = true) (hb : opndOk b = true) :
    Calls Try.prog 41 #[.slice ad n cap, ev o a b] w (BelI w (evalOf o (valOf L a) (valOf L b))) := by
  have HR : Hid (∀ w' : World, Below w.heap.size w w' → Row w' ad n L) := fun w' hb => h.below hb
  have HV := Lib.hid hv
  clear h hv
  rcases (show o = 1 ∨ o = 2 ∨ o = 3 ∨ o = 4 ∨ o = 5 ∨ o = 6 ∨ o = 7 by omega) with rfl | rfl | rfl | rfl | rfl | rfl | rfl
  all_goals
    clear ho
    go_enter Try.func41, Try.ntmps41
    go_wp2_with (first
      | (go_at_call 37; refine (spec_value _ ad n cap L (HR.out _ ((Below.refl _ _).alloc (Nat.le_refl _) _)) HV.out _ (by assumption)).mono ?_; rintro e w1 ⟨rfl, rfl⟩)
      | (go_at_call 60; refine (spec_add _ _ _).mono ?_; rintro e w1 ⟨rfl, rfl⟩)
      | (go_at_call 61; refine (spec_sub _ _ _).mono ?_; rintro e w1 ⟨rfl, rfl⟩)
      | (go_at_call 62; refine (spec_mul _ _ _).mono ?_; rintro e w1 ⟨rfl, rfl⟩)
      | (go_at_call 63; refine (spec_bit _ _).mono ?_; rintro e w1 ⟨rfl, rfl⟩))
    all_goals
      go_ret
      refine ⟨ret_i ?_, (Below.refl _ _).alloc (Nat.le_refl _) _⟩
      first | exact (ev1 _ _).symm | exact (ev2 _ _).symm | exact (ev3 _ _).symm | exact (ev4 _ _).symm | exact (ev5 _ _).symm | exact (ev6 _ _).symm | exact (ev7 _ _).symm | (rw [ev4]; omega) | (rw [ev5]; omega)
set_option maxHeartbeats 1000000 in
set_option maxRecDepth 100000 in
theorem spec_evalExpr (w : World) (ad : Option Addr) (n cap : Nat) (L : List Int) (hn : (n : Int) ≤ 1048576) (h : Row w ad n L) (o a b : Int) :
    Calls Try.prog 16 #[.slice ad n cap, ev o a b] w (BelI w (evalV L o a b)) := by
  have HR : Hid (∀ w' : World, Below w.heap.size w w' → Row w' ad n L) := fun w' hb => h.below hb
  clear h
  cases hv : varsOk L
  · have HV := Lib.hid (evalV_no (o := o) (a := a) (b := b) (Or.inl hv))
    go_enter Try.func16, Try.ntmps16
    go_wp2_with (go_at_call 10; refine (spec_vars _ _ _ _ L hn (HR.out _ ((Below.refl _ _).alloc (Nat.le_refl _) _)) _ hv).mono ?_; rintro e w1 ⟨rfl, rfl⟩)
    go_ret
    exact ⟨ret_i HV.out.symm, (Below.refl _ _).alloc (Nat.le_refl _) _⟩
  · cases he : exprOk o a b
    · have HV := Lib.hid (evalV_no (L := L) (Or.inr he))
      go_enter Try.func16, Try.ntmps16
      go_wp2_with (first
        | (go_at_call 10; refine (spec_vars _ _ _ _ L hn (HR.out _ ((Below.refl _ _).alloc (Nat.le_refl _) _)) _ hv).mono ?_; rintro e w1 ⟨rfl, rfl⟩)
        | (go_at_call 40; refine (spec_exprok _ _ _ _ he _).mono ?_; rintro e w1 ⟨rfl, hb1⟩))
      go_ret
      exact ⟨ret_i HV.out.symm, ((Below.refl _ _).alloc (Nat.le_refl _) _).trans (hb1.mono (by simp))⟩
    · obtain ⟨ho, ha, hb⟩ := (exprOk_iff o a b).1 he
      have HV := Lib.hid (evalV_ok hv he)
      go_enter Try.func16, Try.ntmps16
      go_wp2_with (first
        | (go_at_call 10; refine (spec_vars _ _ _ _ L hn (HR.out _ ((Below.refl _ _).alloc (Nat.le_refl _) _)) _ hv).mono ?_; rintro e w1 ⟨rfl, rfl⟩)
        | (go_at_call 40; refine (spec_exprok _ _ _ _ he _).mono ?_; rintro e w1 ⟨rfl, hb1⟩
           have hbw : Below w.heap.size w w1 := ((Below.refl _ _).alloc (Nat.le_refl _) _).trans (hb1.mono (by simp))
           have hbx : w1.cell? ⟨w.heap.size, 0, none⟩ = some (.int .i64 o) := (hb1.cell (by simp)).trans (new_cell w _ _ _)
           have hby : w1.cell? ⟨w.heap.size, 1, none⟩ = some (.int .i64 a) := (hb1.cell (by simp)).trans (new_cell w _ _ _)
           have hbz : w1.cell? ⟨w.heap.size, 2, none⟩ = some (.int .i64 b) := (hb1.cell (by simp)).trans (new_cell w _ _ _))
        | (go_at_call 41; refine (spec_eval _ ad n cap L (HR.out _ hbw) hv _ _ _ ho ha hb).mono ?_; rintro e w2 ⟨rfl, hb2⟩))
      go_ret
      exact ⟨ret_i HV.out.symm, hbw.trans (hb2.mono hbw.size)⟩
end model

section program
set_option maxRecDepth 100000 in
theorem impl_one (b : Bool) (w : World) : Calls Try.prog 84 #[.bool b] w (Ret w (bit b)) := by
  cases b
  · go_enter Try.func84, Try.ntmps84
    go_wp2
    go_ret
    exact ⟨rfl, rfl⟩
  · go_enter Try.func84, Try.ntmps84
    go_wp2
    go_ret
    exact ⟨rfl, rfl⟩
set_option maxRecDepth 100000 in
theorem impl_min (x y : Int) (w : World) : Calls Try.prog 67 #[.int .i64 x, .int .i64 y] w (Ret w (min x y)) := by
  go_enter Try.func67, Try.ntmps67
  go_wp2
  all_goals
    go_ret
    exact ⟨ret_i (by omega), rfl⟩
set_option maxRecDepth 100000 in
theorem impl_max (x y : Int) (w : World) : Calls Try.prog 68 #[.int .i64 x, .int .i64 y] w (Ret w (max x y)) := by
  go_enter Try.func68, Try.ntmps68
  go_wp2
  all_goals
    go_ret
    exact ⟨ret_i (by omega), rfl⟩
set_option maxRecDepth 100000 in
theorem impl_less (x y : Int) (w : World) : Calls Try.prog 69 #[.int .i64 x, .int .i64 y] w (Ret w (bit (decide (x < y)))) := by
  go_enter Try.func69, Try.ntmps69
  go_wp2_with (go_at_call 84; refine (impl_one _ _).mono ?_; rintro e w1 ⟨rfl, rfl⟩)
  go_ret
  exact ⟨rfl, rfl⟩
set_option maxRecDepth 100000 in
theorem impl_same (x y : Int) (w : World) : Calls Try.prog 70 #[.int .i64 x, .int .i64 y] w (Ret w (bit (decide (x = y)))) := by
  go_enter Try.func70, Try.ntmps70
  go_wp2_with (go_at_call 84; refine (impl_one _ _).mono ?_; rintro e w1 ⟨rfl, rfl⟩)
  go_ret
  exact ⟨rfl, rfl⟩
abbrev opsV : Value := .agg #[.nilFunc, .func (.func 64) #[] #[], .func (.func 65) #[] #[], .func (.func 66) #[] #[],
  .func (.func 67) #[] #[], .func (.func 68) #[] #[], .func (.func 69) #[] #[], .func (.func 70) #[] #[]]
set_option maxRecDepth 100000 in
theorem impl_ops (w : World) : Calls Try.prog 42 #[] w fun e w' => e = .returned opsV ∧ Below w.heap.size w w' := by
  go_enter Try.func42, Try.ntmps42
  go_wp2
  refine bodyPost_ret (v := opsV) (by simp [results, Try.results42, go_sem]) rfl ⟨rfl, (Below.refl _ _).alloc (Nat.le_refl _) _⟩
end program
end Go.Proofs.Ytnpofcalghdaaaa.expr
