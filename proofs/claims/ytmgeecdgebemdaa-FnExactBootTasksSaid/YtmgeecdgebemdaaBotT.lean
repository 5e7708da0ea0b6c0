/- Chapter 16: BootTasks of the program and of the model. -/
import Derived.Test.YtmgeecdgebemdaaBotV
namespace Go.Proofs.Ytmgeecdgebemdaa.bot
open Go Go.ChangeShapes Go.WideShapes Go.ChangeAt Go.RowKit Go.Proofs.Ytmgeecdgebemdaa.row Go.Proofs.Ytmgeecdgebemdaa.val Go.Proofs.Ytmgeecdgebemdaa.expr
set_option maxHeartbeats 2000000 in
set_option maxRecDepth 100000 in
theorem spec_boottasks (w : World) (am : Option Addr) (nm cm : Nat) (z : Int) (au : Option Addr) (nu cu : Nat) (e : Int) (_ : (nu : Int) ≤ 1048576) :
    Calls Try.prog 5 #[botV am nm cm z au nu cu e] w (BelI w nu) := by
  obtain ⟨W, hW⟩ : ∃ W, w.alloc (.cells #[.slice am nm cm, .int .i64 z, .slice au nu cu, .int .i64 e] 28) = W := ⟨_, rfl⟩
  have hBW : Below w.heap.size w W := by rw [← hW]; exact below_new w _
  have hx : Box w.heap.size #[.slice am nm cm, .int .i64 z, .slice au nu cu, .int .i64 e] 28 W := by rw [← hW]; exact Box.new w _ _
  have x2 : W.cell? ⟨w.heap.size, 2, none⟩ = some (.slice au nu cu) := hx.cell 2
  have H0 := Lib.hid hBW
  clear hBW hx
  go_enter Try.func5, Try.ntmps5
  go_wp2
  go_ret
  exact ⟨rfl, H0.out⟩
set_option maxHeartbeats 2000000 in
set_option maxRecDepth 100000 in
theorem impl_boottasks (w : World) (am : Option Addr) (nm cm : Nat) (z : Int) (au : Option Addr) (nu cu : Nat) (e : Int) (_ : (nu : Int) ≤ 1048576) :
    Calls Try.prog 7 #[botV am nm cm z au nu cu e] w (BelI w nu) := by
  obtain ⟨W, hW⟩ : ∃ W, w.alloc (.cells #[.slice am nm cm, .int .i64 z, .slice au nu cu, .int .i64 e] 28) = W := ⟨_, rfl⟩
  have hBW : Below w.heap.size w W := by rw [← hW]; exact below_new w _
  have hx : Box w.heap.size #[.slice am nm cm, .int .i64 z, .slice au nu cu, .int .i64 e] 28 W := by rw [← hW]; exact Box.new w _ _
  have x2 : W.cell? ⟨w.heap.size, 2, none⟩ = some (.slice au nu cu) := hx.cell 2
  have H0 := Lib.hid hBW
  clear hBW hx
  go_enter Try.func7, Try.ntmps7
  go_wp2
  go_ret
  exact ⟨rfl, H0.out⟩
end Go.Proofs.Ytmgeecdgebemdaa.bot
