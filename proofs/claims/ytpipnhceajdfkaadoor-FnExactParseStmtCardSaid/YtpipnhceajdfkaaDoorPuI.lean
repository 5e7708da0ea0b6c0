/- The walk of the program's own parser: it ends as it must. -/
import Derived.Test.YtpipnhceajdfkaaDoorPuW
import Derived.Lib.AtoiErrMem
namespace Go.Proofs.YtpipnhceajdfkaaDoor.pu
open Go Go.ChangeShapes Go.WideShapes Go.ChangeAt Go.RowKit Go.Proofs.YtpipnhceajdfkaaDoor.byt Go.Proofs.YtpipnhceajdfkaaDoor.dec Go.Proofs.YtpipnhceajdfkaaDoor.lay

theorem atoi_ok (s : ByteArray) (hs : s.size ≤ 1048576) (v : Int) (h : Lib.atoiAll s.data.toList = .ok v) (w : World) :
    Calls Tryd.prog 52 #[.string s] w fun e w' => e = .returned (.tuple #[.int .i64 v, .nilIface]) ∧ Below w.heap.size w w' :=
  (Go.Proofs.Any.strconv_Atoi_ok Tryd.laysC172 s (by omega) v h w).mono fun e w' ⟨he, hw⟩ => ⟨he, by
    rcases hw with rfl | ⟨t, rfl⟩
    · exact Below.refl _ _
    · exact Lib.bytesWorld_below _ _ _⟩

/-- The parser's error: some number, and an error that is not nil. -/
def BadOut (w : World) (e : Ending) (w' : World) : Prop := ∃ (x : Int) (N : Nat), e = .returned (.tuple #[.int .i64 x, .iface 133 (.pointer (some ⟨N, 0, none⟩))]) ∧ Below w.heap.size w w'

theorem atoi_bad (s : ByteArray) (hs : s.size ≤ 1048576) (h : ∀ v, Lib.atoiAll s.data.toList ≠ .ok v) (w : World) {a0 a1 : Addr}
    (hv0 : w.var? Tryd.prog "strconv.ErrRange" = some #[.iface 154 (.pointer (some a0))]) (hv1 : w.var? Tryd.prog "strconv.ErrSyntax" = some #[.iface 154 (.pointer (some a1))]) :
    Calls Tryd.prog 52 #[.string s] w (BadOut w) := by
  cases hh : Lib.atoiAll s.data.toList
  · exact absurd hh (h _)
  · exact (Go.Proofs.Any.strconv_Atoi_syntax_var Tryd.laysC172 s (by omega) hh _ _ w hv1).mono fun e w' ⟨N, he, _, _, hb⟩ => ⟨0, N, he, hb⟩
  · exact (Go.Proofs.Any.strconv_Atoi_range_var Tryd.laysC172 s (by omega) hh _ _ w hv0).mono fun e w' ⟨N, he, _, _, hb⟩ => ⟨_, N, he, hb⟩

end Go.Proofs.YtpipnhceajdfkaaDoor.pu
