/- Chapter 3's OperandValue, ExprOk and EvalExpr, of the program and of the model: the plain functions of the text before; nothing that was there is written. -/
import Derived.Test.YtnpofcalghdaaaaExpr
import Derived.WalkLawsBesides
import Derived.Deep.RegionHeld3
namespace Go.Proofs.Ytnpofcalghdaaaa.expr
open Go.ChangeShapes Go.WideShapes Go.ChangeAt Go.RowKit Go.Proofs.Ytnpofcalghdaaaa.row Go.Proofs.Ytnpofcalghdaaaa.val

theorem opndVal_ok {L : List Int} {m : Int} (h : opndOk m = true) (h2 : varsOk L = true) : opndVal L m = valOf L m := by simp [opndVal, h, h2]
theorem opndVal_no {L : List Int} {m : Int} (h : opndOk m = false ∨ varsOk L = false) : opndVal L m = 0 := by
  rcases h with h | h <;> simp [opndVal, h]
section values
theorem spec_opval (w : World) (a : Option Addr) (n cap : Nat) (L : List Int) (hn : (n : Int) ≤ 1048576) (h : Row w a n L) (m : Int) :
    Calls Try.prog 14 #[.slice a n cap, .int .i64 m] w (Ret w (opndVal L m)) := by
  have HR := Lib.hid h
  clear h
  cases hm : opndOk m
  · have HV := Lib.hid (opndVal_no (L := L) (Or.inl hm))
    go_enter Try.func14, Try.ntmps14
    go_wp2_with (go_at_call 36; refine (spec_opnd _ _ hm _).mono ?_; rintro e w1 ⟨rfl, rfl⟩)
    go_ret
    exact ⟨ret_i HV.out.symm, rfl⟩
  · cases hv : varsOk L
    · have HV := Lib.hid (opndVal_no (m := m) (Or.inr hv))
      go_enter Try.func14, Try.ntmps14
      go_wp2_with (first
        | (go_at_call 36; refine (spec_opnd _ _ hm _).mono ?_; rintro e w1 ⟨rfl, rfl⟩)
        | (go_at_call 10; refine (spec_vars _ _ _ _ L hn HR.out _ hv).mono ?_; rintro e w1 ⟨rfl, rfl⟩))
      go_ret
      exact ⟨ret_i HV.out.symm, rfl⟩
    · have HV := Lib.hid (opndVal_ok hm hv)
      go_enter Try.func14, Try.ntmps14
      go_wp2_with (first
        | (go_at_call 36; refine (spec_opnd _ _ hm _).mono ?_; rintro e w1 ⟨rfl, rfl⟩)
        | (go_at_call 10; refine (spec_vars _ _ _ _ L hn HR.out _ hv).mono ?_; rintro e w1 ⟨rfl, rfl⟩)
        | (go_at_call 37; refine (spec_value _ _ _ _ L HR.out hv _ hm).mono ?_; rintro e w1 ⟨rfl, rfl⟩))
      go_ret
      exact ⟨ret_i HV.out.symm, rfl⟩
theorem impl_isvar (m : Int) (w : World) : Calls Try.prog 38 #[.int .i64 m] w (RetB w (decide (m < 0))) := by
  go_enter Try.func38, Try.ntmps38
  go_wp2
  go_ret
  exact ⟨rfl, rfl⟩
theorem impl_varof (m : Int) (h1 : -1000000 ≤ m) (h2 : m ≤ 1000000) (w : World) : Calls Try.prog 39 #[.int .i64 m] w (Ret w (-1 - m)) := by
  go_enter Try.func39, Try.ntmps39
  go_wp2
  go_ret
  exact ⟨rfl, rfl⟩
theorem impl_opval (w : World) (a : Option Addr) (n cap : Nat) (L : List Int) (hn : (n : Int) ≤ 1048576) (h : Row w a n L) (m : Int) :
    Calls Try.prog 15 #[.slice a n cap, .int .i64 m] w (Ret w (opndVal L m)) := by
  have HR := Lib.hid h
  clear h
  cases hm : opndOk m
  · have HV := Lib.hid (opndVal_no (L := L) (Or.inl hm))
    go_enter Try.func15, Try.ntmps15
    go_wp2_with (go_at_call 27; refine (impl_opnd _ _ hm _).mono ?_; rintro e w1 ⟨rfl, rfl⟩)
    go_ret
    exact ⟨ret_i HV.out.symm, rfl⟩
  · cases hv : varsOk L
    · have HV := Lib.hid (opndVal_no (m := m) (Or.inr hv))
      go_enter Try.func15, Try.ntmps15
      go_wp2_with (first
        | (go_at_call 27; refine (impl_opnd _ _ hm _).mono ?_; rintro e w1 ⟨rfl, rfl⟩)
        | (go_at_call 12; refine (impl_vars _ _ _ _ L hn HR.out _ hv).mono ?_; rintro e w1 ⟨rfl, rfl⟩))
      go_ret
      exact ⟨ret_i HV.out.symm, rfl⟩
    · by_cases h0 : m < 0
      · obtain ⟨h1, h2⟩ := opnd_at hv hm h0
        have hb := (opndOk_iff m).1 hm
        obtain ⟨b, off, x, rfl, _, hx, hc⟩ := HR.out.2 (-1 - m).toNat (by have := HR.out.1; omega)
        have HV : Hid (opndVal L m = x) := by
          show opndVal L m = x
          rw [opndVal_ok hm hv, valOf, if_pos h0, List.getD_eq_getElem?_getD, hx]; rfl
        obtain ⟨j, hj⟩ : ∃ j : Nat, -1 - m = (j : Int) := ⟨(-1 - m).toNat, by omega⟩
        rw [show (-1 - m).toNat = j by omega] at hc
        have hj8 : (j : Int) < n := by have := HR.out.1; omega
        have HJ := Lib.hid hj
        clear hx h1 h2 hj
        go_enter Try.func15, Try.ntmps15
        go_wp2_with (first
          | (go_at_call 27; refine (impl_opnd _ _ hm _).mono ?_; rintro e w1 ⟨rfl, rfl⟩)
          | (go_at_call 12; refine (impl_vars _ _ _ _ L hn HR.out _ hv).mono ?_; rintro e w1 ⟨rfl, rfl⟩)
          | (go_at_call 38; refine (impl_isvar _ _).mono ?_; rintro e w1 ⟨rfl, rfl⟩)
          | (go_at_call 39; refine (impl_varof _ (by omega) (by omega) _).mono ?_; rw [HJ.out]; rintro e w1 ⟨rfl, rfl⟩))
        go_ret
        exact ⟨ret_i HV.out.symm, rfl⟩
      · have HV : Hid (opndVal L m = m) := by
          show opndVal L m = m
          rw [opndVal_ok hm hv, valOf, if_neg h0]
        go_enter Try.func15, Try.ntmps15
        go_wp2_with (first
          | (go_at_call 27; refine (impl_opnd _ _ hm _).mono ?_; rintro e w1 ⟨rfl, rfl⟩)
          | (go_at_call 12; refine (impl_vars _ _ _ _ L hn HR.out _ hv).mono ?_; rintro e w1 ⟨rfl, rfl⟩)
          | (go_at_call 38; refine (impl_isvar _ _).mono ?_; rintro e w1 ⟨rfl, rfl⟩))
        go_ret
        exact ⟨ret_i HV.out.symm, rfl⟩
end values

section expressions
theorem in_op (o : Int) (r : Bool) (h : opOk o = r) : (decide (1 ≤ o) && decide (o ≤ 7)) = r := h
theorem spec_exprok (o a b : Int) (r : Bool) (hr : exprOk o a b = r) (w : World) : Calls Try.prog 40 #[ev o a b] w (BelB w r) := by
  cases h1 : opOk o <;> cases h2 : opndOk a <;> cases h3 : opndOk b
  all_goals
    obtain rfl : _ = r := hr
    have HE := Lib.hid (show exprOk o a b = (opOk o && (opndOk a && opndOk b)) from rfl)
    rw [h1, h2, h3] at HE
    go_enter Try.func40, Try.ntmps40
    go_wp2_with (first
      | (go_at_call 52; refine (in_any _ _ _ _ (in_op _ _ h1) _).mono ?_; rintro e w1 ⟨rfl, rfl⟩)
      | (go_at_call 36; (with_reducible refine (spec_opnd a _ h2 _).mono ?_); rintro e w1 ⟨rfl, rfl⟩)
      | (go_at_call 36; (with_reducible refine (spec_opnd b _ h3 _).mono ?_); rintro e w1 ⟨rfl, rfl⟩))
    go_ret
    exact ⟨by rw [HE.out]; rfl, (Below.refl _ _).alloc (Nat.le_refl _) _⟩
theorem impl_exprok (o a b : Int) (r : Bool) (hr : exprOk o a b = r) (w : World) : Calls Try.prog 24 #[ev o a b] w (BelB w r) := by
  by_cases h0 : 1 ≤ o <;> by_cases h1 : o ≤ 7 <;> cases h2 : opndOk a <;> cases h3 : opndOk b
  all_goals first | (exfalso; omega) | skip
  all_goals
    obtain rfl : _ = r := hr
    have HE := Lib.hid (show exprOk o a b = (decide (1 ≤ o) && decide (o ≤ 7) && (opndOk a && opndOk b)) from rfl)
    rw [h2, h3] at HE
    simp only [h0, h1, decide_true, decide_false] at HE
    first | have hd : decide (o ≤ 7) = true := by simpa using h1 | have hd : decide (o ≤ 7) = false := by simpa using h1
    first | have hd0 : decide (1 ≤ o) = true := by simpa using h0 | have hd0 : decide (1 ≤ o) = false := by simpa using h0
    go_enter Try.func24, Try.ntmps24
    go_wp2_with (first
      | (go_at_call 27; (with_reducible refine (impl_opnd a _ h2 _).mono ?_); rintro e w1 ⟨rfl, rfl⟩)
      | (go_at_call 27; (with_reducible refine (impl_opnd b _ h3 _).mono ?_); rintro e w1 ⟨rfl, rfl⟩))
    go_ret
    exact ⟨by rw [HE.out]; first | rfl | simp [hd], (Below.refl _ _).alloc (Nat.le_refl _) _⟩
/-- A struct is copied field by field. -/
def SameE (w : World) (o a b : Int) (e : Ending) (w' : World) : Prop := e = .returned (ev o a b) ∧ Below w.heap.size w w'
theorem toExpr_any (o a b : Int) (w : World) : Calls Try.prog 17 #[ev o a b] w (SameE w o a b) := by
  go_enter Try.func17, Try.ntmps17
  go_wp2
  refine bodyPost_ret (v := ev o a b) (by simp [results, Try.results17, go_sem, ev]) rfl ⟨rfl, ?_⟩
  exact (((Below.refl _ _).alloc (Nat.le_refl _) _).alloc (by simp) _).alloc (by simp; omega) _
end expressions
end Go.Proofs.Ytnpofcalghdaaaa.expr
