/- For every statement FnExactStmtCost returns true; the listed table of the program holds what the program's text lays (the card ties it). -/
import Derived.Test.YtodlbbojjnkneaaDoorRows
import Derived.WalkKit
import Derived.ProofKit
import Derived.OpenShut
import Derived.ShutString
import Derived.ChangeOld
import Derived.Below
import Derived.OpenVars
import Derived.ChangeVars
import Derived.Test.YtodlbbojjnkneaaDoorCards
import Derived.Test.YtodlbbojjnkneaaDoorTie
import Derived.LaidMore
import Derived.Stop.Joined
import Derived.SevenTiedAt
import Derived.MakeChecks
import Derived.Laws.Rows
import Derived.Test.YtodlbbojjnkneaaDoorCstT
import Derived.Test.YtodlbbojjnkneaaDoorStmC
import Derived.Test.YtodlbbojjnkneaaDoorOpen
namespace Go.Proofs.YtodlbbojjnkneaaDoor.fnExactStmtCost
open Go.ChangeShapes Go.WideShapes Go.ChangeAt Go.RowKit
open Go.ChangeMaps (open_string shut_string)
set_option linter.unusedVariables false

theorem own : ownKnob Tryd.prog.godebug = none := by kernel_rfl
theorem laidOut : laidOutB Tryd.prog = true := by kernel_rfl

open Go.WideMaps Go.WideElems
open Go.Proofs.YtodlbbojjnkneaaDoor.row Go.Proofs.YtodlbbojjnkneaaDoor.val Go.Proofs.YtodlbbojjnkneaaDoor.expr Go.Proofs.YtodlbbojjnkneaaDoor.opn Go.Proofs.YtodlbbojjnkneaaDoor.stm Go.Proofs.YtodlbbojjnkneaaDoor.cst
theorem walk (a0 : Value) (w : World) (w0 : IsStmt w a0) (hL : laidMet Tryd.prog Rows.fnExactStmtCostRow.laid w) :
    Calls Tryd.prog 3 #[a0] w fun e w' => e = .returned (.bool true) ∧ Below w.heap.size w w' := by
  obtain ⟨k, x, n, o, a, b, rfl, _, _, _, _, _, _⟩ := w0
  have HT := Lib.hid (costs_of (r := []) hL)
  clear hL
  have hx := Box.new w #[.int .i64 k, .int .i64 x, .int .i64 n, .int .i64 o, .int .i64 a, .int .i64 b] 25
  have hn := below_new w (.cells #[.int .i64 k, .int .i64 x, .int .i64 n, .int .i64 o, .int .i64 a, .int .i64 b] 25)
  go_enter Tryd.func3, Tryd.ntmps3
  go_wp2_with (go_at_call 5; refine (toStmt_any ⟨k, x, n, o, a, b⟩ _).mono ?_; rintro e w1 ⟨rfl, hb1⟩)
  have hx1 := hx.below hb1
  have hn1 := below_then hn hb1
  clear hx hn hb1
  go_wp2_with (go_at_call 4; refine (spec_stmtcost ⟨k, x, n, o, a, b⟩ _).mono ?_; rintro e w2 ⟨rfl, hb2⟩; refine Hid.out ?_)
  have hx2 := Lib.hid (hx1.below hb2)
  have hn2 := below_then hn1 hb2
  clear hx1 hn1 hb2
  refine Lib.hid ?_
  go_wp2_with (first
    | (refine wpList_load_row rfl 25 _ rfl w.heap.size rfl _ _ _ _ hx2.out Tryd.underlying25 rfl (by kernel_rfl) ?_)
    | (go_at_call 5; refine (toStmt_any ⟨k, x, n, o, a, b⟩ _).mono ?_; rintro e w3 ⟨rfl, hb3⟩))
  have HN3 := Lib.hid (below_then hn2 hb3)
  clear hn2 hb3
  go_wp2_with (go_at_call 6; refine (impl_stmtcost ⟨k, x, n, o, a, b⟩ _ (HT.out.below HN3.out)).mono ?_; rintro e w4 ⟨rfl, hb4⟩)
  go_ret
  exact ⟨rfl, below_then HN3.out hb4⟩

/-! ### THE ROW's STEP -/
/-- The door's own heap meets the condition: three closed facts. -/
theorem door_met (os : Os) (args : Array Value) : laidMetH Tryd.prog Rows.fnExactStmtCostRow.laid ((World.doorLaid Tryd.prog 400 os).forCall (fun _ _ => 0) ⟨#[], args, []⟩).memory :=
  laidMetH_of_parts3 (fuel := 8) (laidMet_of_run' 8 (by kernel_rfl) (by kernel_rfl)) (by kernel_rfl) (by kernel_rfl)

set_option maxRecDepth 100000 in
theorem lifted (os : Os) (started : os.Started) (H : Type) (enc : TypeId × Value → H) :
    ReturnsInHanded {} Tryd.checked os 3 .any (fun w args => (Rows.fnExactStmtCostSpec.pre enc Tryd.prog Tryd.f3 [] false w args ∧ laidMetH Tryd.prog Rows.fnExactStmtCostRow.laid w) ∧ sizedMet enc Tryd.prog Tryd.f3 (OpenSpec.ofChange Rows.fnExactStmtCostSpec) false w args) (Rows.fnExactStmtCostSpec.post enc Tryd.prog Tryd.f3 false true false false) := by
  refine returnsInHanded_of_change_and (C := Tryd.checked) (X := fun w _ => laidMetH Tryd.prog Rows.fnExactStmtCostRow.laid w) (fun _ _ _ hh h => h.of_heap hh) own started (by kernel_rfl) Tryd.func3
    (ChangeSpec.witness_shaped (enc := enc) (C := Tryd.checked) (os := os) (X := fun w _ => laidMetH Tryd.prog Rows.fnExactStmtCostRow.laid w) false (World.doorLaid Tryd.prog 400 os) #[.agg #[.int .i64 0, .int .i64 0, .int .i64 0, .int .i64 0, .int .i64 0, .int .i64 0]] 8 rfl (World.shaped_of_RefB (by kernel_rfl) (by kernel_rfl)) (by kernel_rfl) (by kernel_rfl) (by kernel_rfl) (door_met os _)) ?_
  intro W base args ds gs before hval0 hW hcnd _ hL _
  have hLm : laidMet Tryd.prog Rows.fnExactStmtCostRow.laid W := by rw [MakeChecks.laidMetH_plain _ _ _ (by kernel_rfl)] at hL; exact hL
  have hval : ∀ (j : Nat) t v, Tryd.f3.params[j]? = some t → args[j]? = some v → Value.okWide Tryd.prog W .any base t v := hval0
  have hW' := hW
  obtain ⟨p, q, hA0, hV, rfl, hfz, hnd⟩ := hW
  have hA : DataW.TrodAll enc Tryd.prog W 0 (fun _ => true) true Tryd.f3.params.toList args.toList ds p := hA0
  rw [Tryd.params3] at hA hval
  obtain ⟨v0, vs0, d0, ds0, p0, q0, hargs, rfl, rfl, h0, r0⟩ := trodAll_cons hA
  obtain ⟨rfl, rfl, rfl⟩ := trodAll_nil r0
  obtain rfl : args = #[v0] := by cases args; simp_all
  obtain ⟨g1, rfl⟩ : ∃ g1, gs = [g1] := by
    obtain ⟨_, _, _, _, d1, _, e1, _⟩ := trodVars_one hV
    exact ⟨d1, e1⟩
  have k0 := h0
  have lt0 : ∀ x ∈ p0, x.block < W.heap.size := by obtain ⟨m, hm⟩ := k0; exact DataW.trod_lt m _ _ _ hm
  have w0 : IsStmt W v0 := open_Stmt (hval 0 25 v0 rfl rfl) h0
  clear hA0 hval0
  refine (walk v0 W w0 hLm).mono fun e W' ⟨he, bel⟩ => ?_
  subst he
  exact ⟨_, rfl, _, _, _, [], _, q, hW', trodAll_mk1 (shut_bool Tryd.underlying4 _), (trodAll_cons_mk (Below.trod laidOut (by kernel_rfl) (of_decide_eq_true (by kernel_rfl)) k0 bel lt0) trodAll_mk0), bel.trodVars laidOut (by kernel_rfl) hV, bel.frame _, fun h => by cases h⟩

theorem over : Rows.fnExactStmtCostRow.holds Tryd.pinned (OpenSpec.ofChange Rows.fnExactStmtCostSpec) :=
  OpenClaim.holds_of_wide 3 Tryd.f3 rfl rfl rfl rfl rfl rfl rfl ⟨rfl, rfl, rfl, rfl, rfl⟩ rfl rfl rfl rfl rfl (by kernel_rfl) Tryd.func3 (by kernel_rfl)
    (of_decide_eq_true (by kernel_rfl)) (by unfold Func.isWrapper; first | (rw [if_pos (by decide +kernel)]; kernel_rfl) | (rw [if_neg (by decide +kernel)]; exact ⟨rfl, rfl⟩))
    (fun os started H enc _ => lifted os started H enc)

/-- ████ THE STATEMENT: THE TIED CARD ████ -/
theorem proved : Rows.FnExactStmtCostCardSaid :=
  Claim7.holds_tied_plain_at .later [] [.data] true (true, "b210a25f1a8cdb0413d169f69778ebdfd35925d678fad54725bf8e8558f2ed0f") true
    over (fun _ h => by cases h) (by kernel_rfl) (fun _ h => by cases h) fnExactStmtCost_row_tie rfl ⟨rfl, rfl⟩ (by kernel_rfl) rfl
    (fun f fn hf hfn => by
      obtain rfl : f = 3 := Option.some.inj ((show Tryd.prog.funcNamed "loop.example/g00983/laws.FnExactStmtCost" = some 3 by kernel_rfl).symm.trans hf) |>.symm
      obtain rfl : fn = Tryd.f3 := (Option.some.inj (Tryd.func3.symm.trans hfn)).symm
      exact ⟨by kernel_rfl, fun j t ht => by
        rw [Tryd.params3] at ht
        have hm : t ∈ [25] := by simpa using Array.mem_of_getElem? ht
        have hall : ([25].all fun u => !Tryd.prog.wantsStandIn u) = true := by kernel_rfl
        exact (show Tryd.prog.wantsStandIn t = false by simpa using List.all_eq_true.1 hall t hm)⟩)
    (by kernel_rfl)
#print axioms proved
end Go.Proofs.YtodlbbojjnkneaaDoor.fnExactStmtCost
