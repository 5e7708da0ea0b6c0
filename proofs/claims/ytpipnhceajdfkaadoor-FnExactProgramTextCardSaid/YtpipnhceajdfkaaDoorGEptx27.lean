/- Several texts in one: EvalC. -/
import Derived.Test.YtpipnhceajdfkaaDoorGEptx16
import Derived.Deep.QuietTactic
import Derived.BigQuiet

/- Chapter 3's EvalExpr of the program: the plain function 'evalV'; nothing that was there is written. -/
namespace Go.Proofs.YtpipnhceajdfkaaDoor.expr
open Go.ChangeShapes Go.WideShapes Go.ChangeAt Go.RowKit Go.Proofs.YtpipnhceajdfkaaDoor.row Go.Proofs.YtpipnhceajdfkaaDoor.val

theorem retq {P : Program} {f : FuncId} {args : Array Value} {w : World} {x : Int} (h : Calls P f args w (Ret w x)) : Calls P f args w fun e w' => e = .returned (.int .i64 x) ∧ w' = w := h.mono fun _ _ ⟨a, b⟩ => ⟨a, b.symm⟩
end Go.Proofs.YtpipnhceajdfkaaDoor.expr
