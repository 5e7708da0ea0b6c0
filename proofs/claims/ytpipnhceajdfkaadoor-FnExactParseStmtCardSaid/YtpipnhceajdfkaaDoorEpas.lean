/- For every line FnExactParseStmt returns true; the listed variables of the library hold what the program's text lays (the card ties them). -/
import Derived.Test.YtpipnhceajdfkaaDoorRows
import Derived.WalkKit
import Derived.ProofKit
import Derived.OpenShut
import Derived.ShutString
import Derived.Test.YtpipnhceajdfkaaDoorCards
import Derived.Test.YtpipnhceajdfkaaDoorTie
import Derived.LaidMore
import Derived.Stop.Joined
import Derived.SevenTiedAt
import Derived.MakeChecks
import Derived.Below
import Derived.Test.YtpipnhceajdfkaaDoorTexS
import Derived.Test.YtpipnhceajdfkaaDoorTexQ
import Derived.Test.YtpipnhceajdfkaaDoorEqS
namespace Go.Proofs.YtpipnhceajdfkaaDoor.fnExactParseStmt
open Go.ChangeShapes Go.WideShapes Go.ChangeAt Go.RowKit
open Go.ChangeMaps (open_string shut_string)
set_option linter.unusedVariables false      -- a walk need not use every 'w<i>' (that an integer argument fits its kind)

theorem own : ownKnob Tryd.prog.godebug = none := by kernel_rfl

open Go.WideMaps Go.WideElems
open Go.Proofs.YtpipnhceajdfkaaDoor.row Go.Proofs.YtpipnhceajdfkaaDoor.val Go.Proofs.YtpipnhceajdfkaaDoor.expr Go.Proofs.YtpipnhceajdfkaaDoor.stm Go.Proofs.YtpipnhceajdfkaaDoor.tex Go.Proofs.YtpipnhceajdfkaaDoor.lay Go.Proofs.YtpipnhceajdfkaaDoor.spl
def Told (w : World) (s : Go.Proofs.YtpipnhceajdfkaaDoor.stm.St) (b : Bool) (e : Ending) (w' : World) : Prop := e = .returned (.tuple #[stV s, .bool b]) ∧ Below w.heap.size w w'
theorem parse_is (l : ByteArray) (s : Go.Proofs.YtpipnhceajdfkaaDoor.stm.St) (b : Bool) (hp : IsParse (fieldsR l.data.toList) s b) (w : World) (hT : Lib.TabBelow Tryd.prog w.heap.size w "internal/strconv.uint64pow10" .u64 Lib.pow10Tab) (hE : ErrsOk w.heap.size w) :
    Calls Tryd.prog 10 #[.string l] w (Told w s b) := by
  refine (impl_parse l w hT hE).mono ?_
  rintro e w' ⟨t, c, rfl, hp', hb⟩
  obtain ⟨rfl, rfl⟩ := hp'.out.unique hp
  exact ⟨rfl, hb⟩
set_option maxHeartbeats 4000000 in
set_option maxRecDepth 100000 in
theorem walk (a0 : ByteArray) (w0 : a0.size ≤ maxLen) (w : World) (hL : laidMet Tryd.prog Rows.fnExactParseStmtRow.laid w) :
    Calls Tryd.prog 5 #[.string a0] w fun e w' => e = .returned (.bool true) ∧ Below w.heap.size w w' := by
  have HT := Lib.hid (Lib.tabBelow_of_tabIs (tab_of hL))
  have HE := Lib.hid (errsOk_of (errs_of hL))
  clear hL w0
  by_cases hbig : (1048576 : Int) < a0.size
  · go_enter Tryd.func5, Tryd.ntmps5
    go_wp2
    go_ret
    exact ⟨rfl, Below.refl _ _⟩
  · have hsm : (a0.size : Int) ≤ 1048576 := by omega
    clear hbig
    go_enter Tryd.func5, Tryd.ntmps5
    go_wp2_with (go_at_call 14; refine (spec_parse a0 _).mono ?_; rintro e w1 ⟨s, b, rfl, HP, hb1⟩; refine Hid.out ?_)
    have H1 := Lib.hid (And.intro (Box.new w1 #[.int .i64 s.k, .int .i64 s.v, .int .i64 s.n, .int .i64 s.o, .int .i64 s.a, .int .i64 s.b] 27) (below_then hb1 (below_new w1 (.cells #[.int .i64 s.k, .int .i64 s.v, .int .i64 s.n, .int .i64 s.o, .int .i64 s.a, .int .i64 s.b] 27))))
    clear hb1
    refine Lib.hid ?_
    go_wp2_with (go_at_call 10; refine (parse_is a0 s b HP.out _ (fun w' hw' => (HT.out.on H1.out.2) w' (hw'.mono H1.out.2.size)) (fun w' hw' => (HE.out.on H1.out.2) w' (hw'.mono H1.out.2.size))).mono ?_; rintro e w3 ⟨rfl, hb3⟩; refine Hid.out ?_)
    have hx4 := (H1.out.1.below hb3).alloc (.cells #[.int .i64 s.k, .int .i64 s.v, .int .i64 s.n, .int .i64 s.o, .int .i64 s.a, .int .i64 s.b] 27)
    have H4 := Lib.hid (And.intro hx4 (below_then (below_then H1.out.2 hb3) (below_new w3 (.cells #[.int .i64 s.k, .int .i64 s.v, .int .i64 s.n, .int .i64 s.o, .int .i64 s.a, .int .i64 s.b] 27))))
    clear hb3 hx4
    refine Lib.hid ?_
    go_wp2_with (first
      | (refine wpList_load_row rfl 27 _ rfl w1.heap.size rfl _ _ _ _ H4.out.1 Tryd.underlying27 rfl (by kernel_rfl) ?_)
      | (go_at_call 15; refine (eqstmt_same s _).mono ?_; rintro e w5 ⟨rfl, hb5⟩))
    go_ret
    exact ⟨rfl, below_then H4.out.2 hb5⟩

/-! ### THE ROW's STEP: WRITTEN OUT: LEAVE IT -/
/-- The door's own heap meets the condition: three closed facts. -/
theorem door_met (os : Os) (args : Array Value) : laidMetH Tryd.prog Rows.fnExactParseStmtRow.laid ((World.doorLaid Tryd.prog 400 os).forCall (fun _ _ => 0) ⟨#[], args, []⟩).memory :=
  laidMetH_of_parts3 (fuel := 8) (laidMet_of_run' 8 (by kernel_rfl) (by kernel_rfl)) (by kernel_rfl) (by kernel_rfl)

set_option maxRecDepth 100000 in
theorem lifted (os : Os) (started : os.Started) (H : Type) (enc : TypeId × Value → H) :
    ReturnsInHanded {} Tryd.checked os 5 .any (fun w args => (Rows.fnExactParseStmtSpec.pre enc Tryd.prog Tryd.f5 [] false w args ∧ laidMetH Tryd.prog Rows.fnExactParseStmtRow.laid w) ∧ sizedMet enc Tryd.prog Tryd.f5 (OpenSpec.ofChange Rows.fnExactParseStmtSpec) false w args) (Rows.fnExactParseStmtSpec.post enc Tryd.prog Tryd.f5 false true false false) := by
  refine returnsInHanded_of_change_and (C := Tryd.checked) (X := fun w _ => laidMetH Tryd.prog Rows.fnExactParseStmtRow.laid w) (fun _ _ _ hh h => h.of_heap hh) own started (by kernel_rfl) Tryd.func5
    (ChangeSpec.witness_shaped (enc := enc) (C := Tryd.checked) (os := os) (X := fun w _ => laidMetH Tryd.prog Rows.fnExactParseStmtRow.laid w) false (World.doorLaid Tryd.prog 400 os) #[.string ByteArray.empty] 8 rfl (World.shaped_of_RefB (by kernel_rfl) (by kernel_rfl)) (by kernel_rfl) (by kernel_rfl) (by kernel_rfl) (door_met os _)) ?_
  intro W base args ds gs before hval0 hW hcnd _ hL _
  have hLm : laidMet Tryd.prog Rows.fnExactParseStmtRow.laid W := by rw [MakeChecks.laidMetH_plain _ _ _ (by kernel_rfl)] at hL; exact hL
  have hval : ∀ (j : Nat) t v, Tryd.f5.params[j]? = some t → args[j]? = some v → Value.okWide Tryd.prog W .any base t v := hval0
  have hW' := hW
  obtain ⟨p, q, hA0, hV, rfl, hfz, hnd⟩ := hW
  have hA : DataW.TrodAll enc Tryd.prog W 0 (fun _ => true) true Tryd.f5.params.toList args.toList ds p := hA0
  rw [Tryd.params5] at hA hval
  obtain ⟨v0, vs0, d0, ds0, p0, q0, hargs, rfl, rfl, h0, r0⟩ := trodAll_cons hA
  obtain ⟨rfl, rfl, rfl⟩ := trodAll_nil r0
  obtain rfl : args = #[v0] := by cases args; simp_all
  obtain ⟨rfl, rfl⟩ := trodVars_none hV
  obtain ⟨a0, rfl, rfl, rfl, w0⟩ := open_string Tryd.underlying9 (hval 0 9 v0 rfl rfl) h0
  clear hA0 hval0
  simp only [List.append_nil] at hW'
  refine (walk a0 w0 W hLm).mono fun e W' ⟨he, hg⟩ => ?_
  subst he
  exact ⟨_, rfl, _, _, _, [], [], [], hW', (trodAll_cons_mk (shut_bool Tryd.underlying4 _) trodAll_mk0), (trodAll_cons_mk (shut_string Tryd.underlying9 w0) trodAll_mk0), rfl, hg.frame _, fun h => by cases h⟩

theorem over : Rows.fnExactParseStmtRow.holds Tryd.pinned (OpenSpec.ofChange Rows.fnExactParseStmtSpec) :=
  OpenClaim.holds_of_wide 5 Tryd.f5 rfl rfl rfl rfl rfl rfl rfl ⟨rfl, rfl, rfl, rfl, rfl⟩ rfl rfl rfl rfl rfl (by kernel_rfl) Tryd.func5 (by kernel_rfl)
    (of_decide_eq_true (by kernel_rfl)) (by unfold Func.isWrapper; first | (rw [if_pos (by decide +kernel)]; kernel_rfl) | (rw [if_neg (by decide +kernel)]; exact ⟨rfl, rfl⟩))
    (fun os started H enc _ => lifted os started H enc)

/-- ████ THE STATEMENT: THE TIED CARD ████ -/
theorem proved : Rows.FnExactParseStmtCardSaid :=
  Claim7.holds_tied_plain_at .later [] [.data, .data, .data, .sentinel, .sentinel] true (true, "0003a437c9de32906924123970e0e9ae9de71c24c16ce0acdec23ca6a1bf78a0") true
    over (fun _ h => by cases h) (by kernel_rfl) (fun _ h => by cases h) fnExactParseStmt_row_tie rfl ⟨rfl, rfl⟩ (by kernel_rfl) rfl
    (fun f fn hf hfn => by
      obtain rfl : f = 5 := Option.some.inj ((show Tryd.prog.funcNamed "loop.example/g00983/laws.FnExactParseStmt" = some 5 by kernel_rfl).symm.trans hf) |>.symm
      obtain rfl : fn = Tryd.f5 := (Option.some.inj (Tryd.func5.symm.trans hfn)).symm
      exact ⟨by kernel_rfl, fun j t ht => by
        rw [Tryd.params5] at ht
        have hm : t ∈ [9] := by simpa using Array.mem_of_getElem? ht
        have hall : ([9].all fun u => !Tryd.prog.wantsStandIn u) = true := by kernel_rfl
        exact (show Tryd.prog.wantsStandIn t = false by simpa using List.all_eq_true.1 hall t hm)⟩)
    (by kernel_rfl)
#print axioms proved
end Go.Proofs.YtpipnhceajdfkaaDoor.fnExactParseStmt
