/- For every statement FnExactStmtOk returns true; no condition. -/
import Derived.Test.YtjamfnckilfeoaaRows
import Derived.WalkKit
import Derived.ProofKit
import Derived.OpenShut
import Derived.ShutString
import Derived.ChangeOld
import Derived.Below
import Derived.Laws.Rows
import Derived.Test.YtjamfnckilfeoaaStmW
import Derived.Test.YtjamfnckilfeoaaStmU
import Derived.Test.YtjamfnckilfeoaaStmC
import Derived.Test.YtjamfnckilfeoaaOpen
namespace Go.Proofs.Ytjamfnckilfeoaa.fnExactStmtOk
open Go.ChangeShapes Go.WideShapes Go.ChangeAt Go.RowKit
open Go.ChangeMaps (open_string shut_string)
set_option linter.unusedVariables false

theorem own : ownKnob Try.prog.godebug = none := by kernel_rfl
theorem laidOut : laidOutB Try.prog = true := by kernel_rfl

open Go.Proofs.Ytjamfnckilfeoaa.row Go.Proofs.Ytjamfnckilfeoaa.val Go.Proofs.Ytjamfnckilfeoaa.expr Go.Proofs.Ytjamfnckilfeoaa.opn Go.Proofs.Ytjamfnckilfeoaa.stm
theorem walk (a0 : Value) (w : World) (w0 : IsStmt w a0) :
    Calls Try.prog 3 #[a0] w fun e w' => e = .returned (.bool true) ∧ Below w.heap.size w w' := by
  obtain ⟨k, x, n, o, a, b, rfl, _, _, _, _, _, _⟩ := w0
  have hx := Box.new w #[.int .i64 k, .int .i64 x, .int .i64 n, .int .i64 o, .int .i64 a, .int .i64 b] 25
  have hn := below_new w (.cells #[.int .i64 k, .int .i64 x, .int .i64 n, .int .i64 o, .int .i64 a, .int .i64 b] 25)
  go_enter Try.func3, Try.ntmps3
  go_wp2_with (go_at_call 5; refine (toStmt_any ⟨k, x, n, o, a, b⟩ _).mono ?_; rintro e w1 ⟨rfl, hb1⟩)
  have hx1 := hx.below hb1
  have hn1 := below_then hn hb1
  clear hx hn hb1
  go_wp2_with (go_at_call 4; refine (spec_stmtok ⟨k, x, n, o, a, b⟩ _ rfl _).mono ?_; rintro e w2 ⟨rfl, hb2⟩; refine Hid.out ?_)
  have hx2 := Lib.hid (hx1.below hb2)
  have hn2 := below_then hn1 hb2
  clear hx1 hn1 hb2
  refine Lib.hid ?_
  go_wp2_with (first
    | (refine wpList_load_row rfl 25 _ rfl w.heap.size rfl _ _ _ _ hx2.out Try.underlying25 rfl (by kernel_rfl) ?_)
    | (go_at_call 5; refine (toStmt_any ⟨k, x, n, o, a, b⟩ _).mono ?_; rintro e w3 ⟨rfl, hb3⟩))
  have hn3 := below_then hn2 hb3
  clear hn2 hb3
  go_wp2_with (go_at_call 6; refine (impl_stmtok ⟨k, x, n, o, a, b⟩ _ rfl _).mono ?_; rintro e w4 ⟨rfl, hb4⟩)
  go_ret
  exact ⟨rfl, below_then hn3 hb4⟩

/-! ### THE ROW's STEP -/
set_option maxRecDepth 100000 in
theorem lifted (os : Os) (started : os.Started) (H : Type) (enc : TypeId × Value → H) :
    ReturnsInHanded {} Try.checked os 3 .any (Rows.fnExactStmtOkSpec.pre6 enc Try.prog Try.f3 Rows.fnExactStmtOkRow.domain false) (Rows.fnExactStmtOkSpec.post enc Try.prog Try.f3 false true false false) := by
  refine returnsInHanded_of_change (C := Try.checked) own started (by kernel_rfl) Try.func3
    (ChangeSpec.witness6 (enc := enc) (C := Try.checked) false ⟨#[], #[.agg #[.int .i64 0, .int .i64 0, .int .i64 0, .int .i64 0, .int .i64 0, .int .i64 0]], []⟩ 8 (by kernel_rfl) (by kernel_rfl) (by kernel_rfl) (by kernel_rfl)) ?_
  intro W base args ds gs before hval0 hW hcnd _
  have hval : ∀ (j : Nat) t v, Try.f3.params[j]? = some t → args[j]? = some v → Value.okWide Try.prog W .any base t v := hval0
  have hW' := hW
  obtain ⟨p, q, hA0, hV, rfl, hfz, hnd⟩ := hW
  have hA : DataW.TrodAll enc Try.prog W 0 (fun _ => true) true Try.f3.params.toList args.toList ds p := hA0
  rw [Try.params3] at hA hval
  obtain ⟨v0, vs0, d0, ds0, p0, q0, hargs, rfl, rfl, h0, r0⟩ := trodAll_cons hA
  obtain ⟨rfl, rfl, rfl⟩ := trodAll_nil r0
  obtain rfl : args = #[v0] := by cases args; simp_all
  obtain ⟨rfl, rfl⟩ := trodVars_none hV
  have k0 := h0
  have lt0 : ∀ x ∈ p0, x.block < W.heap.size := by obtain ⟨m, hm⟩ := k0; exact DataW.trod_lt m _ _ _ hm
  have w0 : IsStmt W v0 := open_Stmt (hval 0 25 v0 rfl rfl) h0
  clear hA0 hval0
  refine (walk v0 W w0).mono fun e W' ⟨he, bel⟩ => ?_
  subst he
  exact ⟨_, rfl, _, _, _, [], _, [], hW', trodAll_mk1 (shut_bool Try.underlying4 _), (trodAll_cons_mk (Below.trod laidOut (by kernel_rfl) (of_decide_eq_true (by kernel_rfl)) k0 bel lt0) trodAll_mk0), rfl, bel.frame _, fun h => by cases h⟩

theorem over : Rows.fnExactStmtOkRow.holds Try.pinned (OpenSpec.ofChange Rows.fnExactStmtOkSpec) :=
  OpenClaim.holds_of_wide 3 Try.f3 rfl rfl rfl rfl rfl rfl rfl ⟨rfl, rfl, rfl, rfl, rfl⟩ rfl rfl rfl rfl rfl (by kernel_rfl) Try.func3 (by kernel_rfl)
    (of_decide_eq_true (by kernel_rfl)) (by unfold Func.isWrapper; first | (rw [if_pos (by decide +kernel)]; kernel_rfl) | (rw [if_neg (by decide +kernel)]; exact ⟨rfl, rfl⟩))
    (fun os started H enc _ => lifted os started H enc)

/-- ████ THE STATEMENT ████ -/
theorem proved : Rows.FnExactStmtOkSaid := over
#print axioms proved
end Go.Proofs.Ytjamfnckilfeoaa.fnExactStmtOk
