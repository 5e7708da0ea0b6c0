/- Several texts in one: ErrI. -/
import Derived.Test.YtpipnhceajdfkaaGreatDoorRows
import Derived.WalkKit
import Derived.LaidEql
import Derived.RowKitTokens
import Derived.KernelRfl

/- errors.Is where the target is a sentinel of errors.New's make: the sentinel itself, and no error. -/
namespace Go.Proofs.YtpipnhceajdfkaaGreatDoor.eis
open Go Go.RowKit Go.Extern.Stop Go.Stop Go.Extern

theorem isTypeOf (v : Value) (w : World) : (Extern.ReflectliteType.typeOf #[.iface 189 v]).run Tryz.prog w = .ok (.iface 114 (.agg #[.pointer (some ⟨Tryz.prog.globals.size, 189, none⟩)])) w := by kernel_rfl
/-- The library's own entry for a type's 'Comparable'. -/
noncomputable def cmpM : Array Value → Sem Value := (Extern.find Tryz.f155).getD (fun _ => pure .nilIface)
theorem isComparable (n : Nat) (hn : n = Tryz.prog.globals.size) (w : World) : (cmpM #[.agg #[.pointer (some ⟨n, 189, none⟩)]]).run Tryz.prog w = .ok (.bool true) w := by subst hn; kernel_rfl
theorem isMethodComparable (k : Nat) (v : Value) (w : World) : (Go.method (k + 1) 114 v "Comparable").run Tryz.prog w = .ok (155, v) w := by kernel_rfl
theorem isComp : (Tryz.prog.info? 189).map (·.comparable) = some true := by kernel_rfl
theorem isSize : (Tryz.prog.info? 191).map (·.size) = some 1 := by kernel_rfl
set_option maxHeartbeats 4000000 in
set_option maxRecDepth 100000 in
/-- errors.Is(x, x), x a pointer to an errors.errorString. -/
theorem is_same (a : Addr) (w : World) :
    Calls Tryz.prog 19 #[.iface 189 (.pointer (some a)), .iface 189 (.pointer (some a))] w fun e w' => e = .returned (.bool true) ∧ w' = w := by
  obtain ⟨i, hi, hcmp⟩ := Option.map_eq_some_iff.1 isComp
  obtain ⟨j, hj, hjs⟩ := Option.map_eq_some_iff.1 isSize
  have h8 := @run_callFunc_extern Tryz.prog 37 _ Extern.ReflectliteType.typeOf Tryz.func37 (by kernel_rfl) (by kernel_rfl) (by kernel_rfl) (by kernel_rfl)
  have h32 := @run_callFunc_extern Tryz.prog 155 _ cmpM Tryz.func155 (by kernel_rfl) (by kernel_rfl) (by kernel_rfl) (by kernel_rfl)
  have tT := isTypeOf
  have cT := isComparable
  have mR := isMethodComparable
  have heq := run_eql_iface_ptr_same (P := Tryz.prog) w a Tryz.underlying51 Tryz.underlying189 hi hcmp hj
  go_enter Tryz.func19, Tryz.ntmps19
  go_wp2
  refine wp_loop_rounds 1 ?_
  rw [rounds_succ]
  go_wp2
  go_ret
  exact ⟨rfl, rfl⟩
set_option maxHeartbeats 4000000 in
set_option maxRecDepth 100000 in
/-- errors.Is(nil, x). -/
theorem is_nil (b : Addr) (w : World) :
    Calls Tryz.prog 19 #[.nilIface, .iface 189 (.pointer (some b))] w fun e w' => e = .returned (.bool false) ∧ w' = w := by
  have hn := run_eql_iface_nil_left (P := Tryz.prog) w 189 (.pointer (some b)) Tryz.underlying51
  go_enter Tryz.func19, Tryz.ntmps19
  go_wp2
  go_ret
  exact ⟨rfl, rfl⟩
end Go.Proofs.YtpipnhceajdfkaaGreatDoor.eis
