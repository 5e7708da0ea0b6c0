/- The law's own comparison of two statements, at two that are the same. -/
import Derived.Test.YtnpofcalghdaaaaStmP
namespace Go.Proofs.Ytnpofcalghdaaaa.stm
open Go.ChangeShapes Go.WideShapes Go.ChangeAt Go.RowKit Go.Proofs.Ytnpofcalghdaaaa.row Go.Proofs.Ytnpofcalghdaaaa.val Go.Proofs.Ytnpofcalghdaaaa.expr

theorem eqexpr_same (o a b : Int) (w : World) : Calls Try.prog 103 #[ev o a b, ev o a b] w (BelB w true) := by
  go_enter Try.func103, Try.ntmps103
  go_wp2
  go_ret
  exact ⟨rfl, ((Below.refl _ w).alloc (Nat.le_refl _) _).alloc (by simp) _⟩
theorem eqstmt_same (s : St) (w : World) : Calls Try.prog 116 #[stV s, stV s] w (BelB w true) := by
  obtain ⟨k, v, n, o, a, b⟩ := s
  go_enter Try.func116, Try.ntmps116
  go_wp2_with (go_at_call 103; refine (eqexpr_same o a b _).mono ?_; rintro e w1 ⟨rfl, hb1⟩)
  go_ret
  exact ⟨rfl, Below.trans (((Below.refl _ w).alloc (Nat.le_refl _) _).alloc (by simp) _) (hb1.mono (by simp; omega))⟩
end Go.Proofs.Ytnpofcalghdaaaa.stm
