/- For every statement FnExactFormatStmt returns true; the listed variables of the library hold what the program's text lays (the card ties them). -/
import Derived.Test.YtpipnhceajdfkaaDoorRows
import Derived.WalkKit
import Derived.ProofKit
import Derived.OpenShut
import Derived.ShutString
import Derived.ChangeOld
import Derived.Below
import Derived.Test.YtpipnhceajdfkaaDoorCards
import Derived.Test.YtpipnhceajdfkaaDoorTie
import Derived.LaidMore
import Derived.Stop.Joined
import Derived.SevenTiedAt
import Derived.MakeChecks
import Derived.Laws.Rows
import Derived.Test.YtpipnhceajdfkaaDoorTexF
import Derived.Test.YtpipnhceajdfkaaDoorTexG
import Derived.Test.YtpipnhceajdfkaaDoorStmC
import Derived.Test.YtpipnhceajdfkaaDoorOpen
namespace Go.Proofs.YtpipnhceajdfkaaDoor.fnExactFormatStmt
open Go.ChangeShapes Go.WideShapes Go.ChangeAt Go.RowKit
open Go.ChangeMaps (open_string shut_string)
set_option linter.unusedVariables false

theorem own : ownKnob Tryd.prog.godebug = none := by kernel_rfl
theorem laidOut : laidOutB Tryd.prog = true := by kernel_rfl

open Go.WideMaps Go.WideElems
open Go.Proofs.YtpipnhceajdfkaaDoor.row Go.Proofs.YtpipnhceajdfkaaDoor.val Go.Proofs.YtpipnhceajdfkaaDoor.expr Go.Proofs.YtpipnhceajdfkaaDoor.opn Go.Proofs.YtpipnhceajdfkaaDoor.stm Go.Proofs.YtpipnhceajdfkaaDoor.tex Go.Proofs.YtpipnhceajdfkaaDoor.lay
theorem walk (a0 : Value) (w : World) (w0 : IsStmt w a0) (hL : laidMet Tryd.prog Rows.fnExactFormatStmtRow.laid w) :
    Calls Tryd.prog 4 #[a0] w fun e w' => e = .returned (.bool true) ∧ Below w.heap.size w w' := by
  obtain ⟨k, x, n, o, a, b, rfl, _, _, _, _, _, _⟩ := w0
  have HT := Lib.hid (Lib.tabBelow_of_tabIs (tab_of hL))
  clear hL
  have hx := Box.new w #[.int .i64 k, .int .i64 x, .int .i64 n, .int .i64 o, .int .i64 a, .int .i64 b] 35
  have hn := below_new w (.cells #[.int .i64 k, .int .i64 x, .int .i64 n, .int .i64 o, .int .i64 a, .int .i64 b] 35)
  go_enter Tryd.func4, Tryd.ntmps4
  go_wp2_with (go_at_call 13; refine (toStmt_any ⟨k, x, n, o, a, b⟩ _).mono ?_; rintro e w1 ⟨rfl, hb1⟩)
  have hx1 := hx.below hb1
  have hn1 := below_then hn hb1
  clear hx hn hb1
  go_wp2_with (go_at_call 12; refine (spec_fmtstmt ⟨k, x, n, o, a, b⟩ _).mono ?_; rintro e w2 ⟨rfl, hb2⟩; refine Hid.out ?_)
  have hx2 := Lib.hid (hx1.below hb2)
  have hn2 := below_then hn1 hb2
  clear hx1 hn1 hb2
  refine Lib.hid ?_
  go_wp2_with (first
    | (refine wpList_load_row rfl 35 _ rfl w.heap.size rfl _ _ _ _ hx2.out Tryd.underlying35 rfl (by kernel_rfl) ?_)
    | (go_at_call 13; refine (toStmt_any ⟨k, x, n, o, a, b⟩ _).mono ?_; rintro e w3 ⟨rfl, hb3⟩))
  have HN3 := Lib.hid (below_then hn2 hb3)
  clear hn2 hb3
  go_wp2_with (go_at_call 9; refine (impl_fmtstmt ⟨k, x, n, o, a, b⟩ _ (fun w' hw' => (HT.out.on HN3.out) w' (hw'.mono HN3.out.size))).mono ?_; rintro e w4 ⟨rfl, hb4⟩)
  go_ret
  exact ⟨rfl, below_then HN3.out hb4⟩

/-! ### THE ROW's STEP -/
/-- The door's own heap meets the condition: three closed facts. -/
theorem door_met (os : Os) (args : Array Value) : laidMetH Tryd.prog Rows.fnExactFormatStmtRow.laid ((World.doorLaid Tryd.prog 400 os).forCall (fun _ _ => 0) ⟨#[], args, []⟩).memory :=
  laidMetH_of_parts3 (fuel := 8) (laidMet_of_run' 8 (by kernel_rfl) (by kernel_rfl)) (by kernel_rfl) (by kernel_rfl)

set_option maxRecDepth 100000 in
theorem lifted (os : Os) (started : os.Started) (H : Type) (enc : TypeId × Value → H) :
    ReturnsInHanded {} Tryd.checked os 4 .any (fun w args => (Rows.fnExactFormatStmtSpec.pre enc Tryd.prog Tryd.f4 [] false w args ∧ laidMetH Tryd.prog Rows.fnExactFormatStmtRow.laid w) ∧ sizedMet enc Tryd.prog Tryd.f4 (OpenSpec.ofChange Rows.fnExactFormatStmtSpec) false w args) (Rows.fnExactFormatStmtSpec.post enc Tryd.prog Tryd.f4 false true false false) := by
  refine returnsInHanded_of_change_and (C := Tryd.checked) (X := fun w _ => laidMetH Tryd.prog Rows.fnExactFormatStmtRow.laid w) (fun _ _ _ hh h => h.of_heap hh) own started (by kernel_rfl) Tryd.func4
    (ChangeSpec.witness_shaped (enc := enc) (C := Tryd.checked) (os := os) (X := fun w _ => laidMetH Tryd.prog Rows.fnExactFormatStmtRow.laid w) false (World.doorLaid Tryd.prog 400 os) #[.agg #[.int .i64 0, .int .i64 0, .int .i64 0, .int .i64 0, .int .i64 0, .int .i64 0]] 8 rfl (World.shaped_of_RefB (by kernel_rfl) (by kernel_rfl)) (by kernel_rfl) (by kernel_rfl) (by kernel_rfl) (door_met os _)) ?_
  intro W base args ds gs before hval0 hW hcnd _ hL _
  have hLm : laidMet Tryd.prog Rows.fnExactFormatStmtRow.laid W := by rw [MakeChecks.laidMetH_plain _ _ _ (by kernel_rfl)] at hL; exact hL
  have hval : ∀ (j : Nat) t v, Tryd.f4.params[j]? = some t → args[j]? = some v → Value.okWide Tryd.prog W .any base t v := hval0
  have hW' := hW
  obtain ⟨p, q, hA0, hV, rfl, hfz, hnd⟩ := hW
  have hA : DataW.TrodAll enc Tryd.prog W 0 (fun _ => true) true Tryd.f4.params.toList args.toList ds p := hA0
  rw [Tryd.params4] at hA hval
  obtain ⟨v0, vs0, d0, ds0, p0, q0, hargs, rfl, rfl, h0, r0⟩ := trodAll_cons hA
  obtain ⟨rfl, rfl, rfl⟩ := trodAll_nil r0
  obtain rfl : args = #[v0] := by cases args; simp_all
  obtain ⟨rfl, rfl⟩ := trodVars_none hV
  have k0 := h0
  have lt0 : ∀ x ∈ p0, x.block < W.heap.size := by obtain ⟨m, hm⟩ := k0; exact DataW.trod_lt m _ _ _ hm
  have w0 : IsStmt W v0 := open_Stmt (hval 0 35 v0 rfl rfl) h0
  clear hA0 hval0
  refine (walk v0 W w0 hLm).mono fun e W' ⟨he, bel⟩ => ?_
  subst he
  exact ⟨_, rfl, _, _, _, [], _, [], hW', trodAll_mk1 (shut_bool Tryd.underlying4 _), (trodAll_cons_mk (Below.trod laidOut (by kernel_rfl) (of_decide_eq_true (by kernel_rfl)) k0 bel lt0) trodAll_mk0), rfl, bel.frame _, fun h => by cases h⟩

theorem over : Rows.fnExactFormatStmtRow.holds Tryd.pinned (OpenSpec.ofChange Rows.fnExactFormatStmtSpec) :=
  OpenClaim.holds_of_wide 4 Tryd.f4 rfl rfl rfl rfl rfl rfl rfl ⟨rfl, rfl, rfl, rfl, rfl⟩ rfl rfl rfl rfl rfl (by kernel_rfl) Tryd.func4 (by kernel_rfl)
    (of_decide_eq_true (by kernel_rfl)) (by unfold Func.isWrapper; first | (rw [if_pos (by decide +kernel)]; kernel_rfl) | (rw [if_neg (by decide +kernel)]; exact ⟨rfl, rfl⟩))
    (fun os started H enc _ => lifted os started H enc)

/-- ████ THE STATEMENT: THE TIED CARD ████ -/
theorem proved : Rows.FnExactFormatStmtCardSaid :=
  Claim7.holds_tied_plain_at .later [] [.data, .data, .data] true (true, "0003a437c9de32906924123970e0e9ae9de71c24c16ce0acdec23ca6a1bf78a0") true
    over (fun _ h => by cases h) (by kernel_rfl) (fun _ h => by cases h) fnExactFormatStmt_row_tie rfl ⟨rfl, rfl⟩ (by kernel_rfl) rfl
    (fun f fn hf hfn => by
      obtain rfl : f = 4 := Option.some.inj ((show Tryd.prog.funcNamed "loop.example/g00983/laws.FnExactFormatStmt" = some 4 by kernel_rfl).symm.trans hf) |>.symm
      obtain rfl : fn = Tryd.f4 := (Option.some.inj (Tryd.func4.symm.trans hfn)).symm
      exact ⟨by kernel_rfl, fun j t ht => by
        rw [Tryd.params4] at ht
        have hm : t ∈ [35] := by simpa using Array.mem_of_getElem? ht
        have hall : ([35].all fun u => !Tryd.prog.wantsStandIn u) = true := by kernel_rfl
        exact (show Tryd.prog.wantsStandIn t = false by simpa using List.all_eq_true.1 hall t hm)⟩)
    (by kernel_rfl)
#print axioms proved
end Go.Proofs.YtpipnhceajdfkaaDoor.fnExactFormatStmt
