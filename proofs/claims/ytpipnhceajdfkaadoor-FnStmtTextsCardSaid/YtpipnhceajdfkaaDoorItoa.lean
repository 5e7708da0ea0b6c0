/- The program's own FormatInt: it is the numeral. -/
import Derived.Test.YtpipnhceajdfkaaDoorLaid
import Derived.Test.YtpipnhceajdfkaaDoorShelf
import Derived.Lib.AppendIntMem
import Derived.WalkKit
import Derived.ProofKit
namespace Go.Proofs.YtpipnhceajdfkaaDoor.lay
open Go Go.RowKit

theorem impl_fmt (n : Int) (hn0 : -9223372036854775808 ≤ n) (hn1 : n ≤ 9223372036854775807) (w : World) (hT : Lib.TabIs Tryd.prog w "internal/strconv.uint64pow10" .u64 Lib.pow10Tab) :
    Calls Tryd.prog 51 #[.int .i64 n] w fun e w' => e = .returned (.string ⟨(Lib.itoa n).toArray⟩) ∧ Below w.heap.size w w' := by
  have HT := Lib.hid hT
  have H0 := Lib.hid hn0
  have H1 := Lib.hid hn1
  clear hT hn0 hn1
  go_enter Tryd.func51, Tryd.ntmps51
  go_wp2_with (go_at_call 68; refine (Tryd.strconv_Itoa n H0.out H1.out _ HT.out).mono ?_; rintro e w1 ⟨rfl, k, os, rfl⟩)
  go_ret
  exact ⟨rfl, Lib.below_grow _ _ (Nat.le_refl _) _ _⟩
end Go.Proofs.YtpipnhceajdfkaaDoor.lay
