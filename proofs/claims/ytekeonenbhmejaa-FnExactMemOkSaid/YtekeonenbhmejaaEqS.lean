/- The law's own comparison of two statements, at two that are the same. -/
import Derived.Test.YtekeonenbhmejaaStmP
namespace Go.Proofs.Ytekeonenbhmejaa.stm
open Go.ChangeShapes Go.WideShapes Go.ChangeAt Go.RowKit Go.Proofs.Ytekeonenbhmejaa.row Go.Proofs.Ytekeonenbhmejaa.val Go.Proofs.Ytekeonenbhmejaa.expr

theorem eqexpr_same (o a b : Int) (w : World) : Calls Try.prog 70 #[ev o a b, ev o a b] w (BelB w true) := by
  go_enter Try.func70, Try.ntmps70
  go_wp2
  go_ret
  exact ⟨rfl, ((Below.refl _ w).alloc (Nat.le_refl _) _).alloc (by simp) _⟩
theorem eqstmt_same (s : St) (w : World) : Calls Try.prog 76 #[stV s, stV s] w (BelB w true) := by
  obtain ⟨k, v, n, o, a, b⟩ := s
  go_enter Try.func76, Try.ntmps76
  go_wp2_with (go_at_call 70; refine (eqexpr_same o a b _).mono ?_; rintro e w1 ⟨rfl, hb1⟩)
  go_ret
  exact ⟨rfl, Below.trans (((Below.refl _ w).alloc (Nat.le_refl _) _).alloc (by simp) _) (hb1.mono (by simp; omega))⟩
end Go.Proofs.Ytekeonenbhmejaa.stm
