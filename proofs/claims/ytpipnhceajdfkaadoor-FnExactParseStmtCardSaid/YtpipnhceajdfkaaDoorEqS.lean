/- The law's own comparison of two statements, at two that are the same. -/
import Derived.Test.YtpipnhceajdfkaaDoorStmP
namespace Go.Proofs.YtpipnhceajdfkaaDoor.stm
open Go.ChangeShapes Go.WideShapes Go.ChangeAt Go.RowKit Go.Proofs.YtpipnhceajdfkaaDoor.row Go.Proofs.YtpipnhceajdfkaaDoor.val Go.Proofs.YtpipnhceajdfkaaDoor.expr

theorem eqexpr_same (o a b : Int) (w : World) : Calls Tryd.prog 40 #[ev o a b, ev o a b] w (BelB w true) := by
  go_enter Tryd.func40, Tryd.ntmps40
  go_wp2
  go_ret
  exact ⟨rfl, ((Below.refl _ w).alloc (Nat.le_refl _) _).alloc (by simp) _⟩
theorem eqstmt_same (s : St) (w : World) : Calls Tryd.prog 15 #[stV s, stV s] w (BelB w true) := by
  obtain ⟨k, v, n, o, a, b⟩ := s
  go_enter Tryd.func15, Tryd.ntmps15
  go_wp2_with (go_at_call 40; refine (eqexpr_same o a b _).mono ?_; rintro e w1 ⟨rfl, hb1⟩)
  go_ret
  exact ⟨rfl, Below.trans (((Below.refl _ w).alloc (Nat.le_refl _) _).alloc (by simp) _) (hb1.mono (by simp; omega))⟩
end Go.Proofs.YtpipnhceajdfkaaDoor.stm
