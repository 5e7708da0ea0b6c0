/- The contract of the model's digit. -/
import Derived.Test.YtpipnhceajdfkaaDoorHexB
namespace Go.Proofs.YtpipnhceajdfkaaDoor.hex
open Go.ChangeShapes Go.WideShapes Go.ChangeAt Go.RowKit Go.Proofs.YtpipnhceajdfkaaDoor.byt

theorem fig_any (x : Int) (w : World) (h0 : 0 ≤ x) (h1 : x < 16) :
    Calls Tryd.prog 57 #[.int .i64 x] w fun e w' => e = .returned (.int .u8 (fig x)) ∧ w = w' := by
  by_cases h : x < 10
  · have hv : fig x = 48 + x := by unfold fig; rw [if_pos h]
    have HV := Lib.hid hv; clear hv
    go_enter Tryd.func57, Tryd.ntmps57
    go_wp2
    go_ret
    exact ⟨ret_u8 HV.out.symm, rfl⟩
  · have hv : fig x = 87 + x := by unfold fig; rw [if_neg h]
    have HV := Lib.hid hv; clear hv
    go_enter Tryd.func57, Tryd.ntmps57
    go_wp2
    go_ret
    exact ⟨ret_u8 (by rw [HV.out]; omega), rfl⟩
end Go.Proofs.YtpipnhceajdfkaaDoor.hex
