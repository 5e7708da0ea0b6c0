/- For every list of statements FnExactLongestRun returns true and leaves the list as it was; no condition. -/
import Derived.Test.YtdbgjcfcjehmbaaRows
import Derived.WalkKit
import Derived.ProofKit
import Derived.OpenShut
import Derived.ShutString
import Derived.ChangeOld
import Derived.Below
import Derived.Test.YtdbgjcfcjehmbaaBlkD
import Derived.Test.YtdbgjcfcjehmbaaBlkL
import Derived.Test.YtdbgjcfcjehmbaaBlkI
import Derived.Test.YtdbgjcfcjehmbaaOpenB
namespace Go.Proofs.Ytdbgjcfcjehmbaa.fnExactLongestRun
open Go.ChangeShapes Go.WideShapes Go.ChangeAt Go.RowKit
open Go.ChangeMaps (open_string shut_string)
set_option linter.unusedVariables false

theorem own : ownKnob Try.prog.godebug = none := by kernel_rfl
theorem laidOut : laidOutB Try.prog = true := by kernel_rfl

open Go.Proofs.Ytdbgjcfcjehmbaa.row Go.Proofs.Ytdbgjcfcjehmbaa.val Go.Proofs.Ytdbgjcfcjehmbaa.expr Go.Proofs.Ytdbgjcfcjehmbaa.opn Go.Proofs.Ytdbgjcfcjehmbaa.stm Go.Proofs.Ytdbgjcfcjehmbaa.blk
set_option maxHeartbeats 4000000 in
theorem walk (a0 : Value) (w : World) (w0 : IsStmts w a0) :
    Calls Try.prog 7 #[a0] w fun e w' => e = .returned (.bool true) ∧ Below w.heap.size w w' := by
  obtain ⟨ad, len, cap, L, rfl, hlm, hS⟩ := w0
  have hlm2 : (len : Int) ≤ 9223372036854775807 := by unfold maxLen at hlm; omega
  by_cases hbig : (1048576 : Int) < len
  · have hz : (1048576 : Int) - len < 0 := by omega
    have HZ := Lib.hid (show (if (1048576 : Int) - len < 0 then (-1 : Int) else (1048576 : Int) - len) = -1 from if_pos hz)
    clear hS hlm hz
    go_enter Try.func7, Try.ntmps7
    go_wp2_with (go_at_call 13; refine (sz_any _ _ _ _ hlm2 (by omega) (by omega) _).mono ?_; rw [HZ.out]; rintro e w1 ⟨rfl, rfl⟩)
    go_ret
    exact ⟨rfl, Below.refl _ _⟩
  · have hsm : (len : Int) ≤ 1048576 := by omega
    have hz : ¬ (1048576 : Int) - len < 0 := by omega
    have HZ := Lib.hid (show (if (1048576 : Int) - len < 0 then (-1 : Int) else (1048576 : Int) - len) = (1048576 : Int) - len from if_neg hz)
    have HS := Lib.hid hS
    have hl : L.length = len := hS.1
    obtain ⟨X, hX⟩ : ∃ X, LongIs L X := longIs_ex L
    have HX := Lib.hid hX
    clear hX
    clear hS hbig hlm hz
    go_enter Try.func7, Try.ntmps7
    go_wp2_with (first
      | (go_at_call 13; refine (sz_any _ _ _ _ hlm2 (by omega) (by omega) _).mono ?_; rw [HZ.out]; rintro e w1 ⟨rfl, rfl⟩)
      | (go_at_call 15; refine (toStmts_any _ _ _ _ L hsm HS.out).mono ?_; rintro e w2 ⟨rfl, hx2, hb2⟩; refine Hid.out ?_))
    have H2 := Lib.hid (And.intro hx2 hb2)
    clear hx2 hb2
    refine Lib.hid ?_
    go_wp2_with (go_at_call 19; refine (spec_longestrun _ len len L hsm _ (StRow.of_box' H2.out.1 hl) X HX.out).mono ?_; rintro e w3 ⟨rfl, hb3⟩; refine Hid.out ?_)
    have H3 := Lib.hid (below_then H2.out.2 hb3)
    clear hb3
    refine Lib.hid ?_
    go_wp2_with (go_at_call 15; refine (toStmts_any _ _ _ _ L hsm (HS.out.below H3.out)).mono ?_; rintro e w4 ⟨rfl, hx4, hb4⟩; refine Hid.out ?_)
    have H4 := Lib.hid (And.intro hx4 (below_then H3.out hb4))
    clear hx4 hb4
    refine Lib.hid ?_
    go_wp2_with (go_at_call 20; refine (impl_longestrun _ len len L hsm (Nat.le_refl _) _ (StRow.of_box' H4.out.1 hl) X HX.out).mono ?_; rintro e w5 ⟨rfl, hb5⟩; refine Hid.out ?_)
    have H5 := Lib.hid (And.intro (H4.out.1.below hb5) (below_then H4.out.2 hb5))
    clear hb5
    refine Lib.hid ?_
    go_wp2_with (go_at_call 15; refine (toStmts_any _ _ _ _ L hsm (HS.out.below H5.out.2)).mono ?_; rintro e w6 ⟨rfl, hx6, hb6⟩; refine Hid.out ?_)
    have H6 := Lib.hid (And.intro hx6 (And.intro (H5.out.1.below hb6) (below_then H5.out.2 hb6)))
    clear hx6 hb6
    refine Lib.hid ?_
    go_wp2_with (go_at_call 16; refine (eqStmts_any _ _ _ len len len L hsm (StRow.of_box' H6.out.2.1 hl) (StRow.of_box' H6.out.1 hl)).mono ?_; rintro e w7 ⟨rfl, hb7⟩)
    go_ret
    exact ⟨rfl, below_then H6.out.2.2 hb7⟩

/-! ### THE ROW's STEP -/
set_option maxRecDepth 100000 in
theorem lifted (os : Os) (started : os.Started) (H : Type) (enc : TypeId × Value → H) :
    ReturnsInHanded {} Try.checked os 7 .any (Rows.fnExactLongestRunSpec.pre6 enc Try.prog Try.f7 Rows.fnExactLongestRunRow.domain false) (Rows.fnExactLongestRunSpec.post enc Try.prog Try.f7 false true false false) := by
  refine returnsInHanded_of_change (C := Try.checked) own started (by kernel_rfl) Try.func7
    (ChangeSpec.witness6 (enc := enc) (C := Try.checked) false ⟨#[], #[.slice none 0 0], []⟩ 8 (by kernel_rfl) (by kernel_rfl) (by kernel_rfl) (by kernel_rfl)) ?_
  intro W base args ds gs before hval0 hW hcnd _
  have hval : ∀ (j : Nat) t v, Try.f7.params[j]? = some t → args[j]? = some v → Value.okWide Try.prog W .any base t v := hval0
  have hW' := hW
  obtain ⟨p, q, hA0, hV, rfl, hfz, hnd⟩ := hW
  have hA : DataW.TrodAll enc Try.prog W 0 (fun _ => true) true Try.f7.params.toList args.toList ds p := hA0
  rw [Try.params7] at hA hval
  obtain ⟨v0, vs0, d0, ds0, p0, q0, hargs, rfl, rfl, h0, r0⟩ := trodAll_cons hA
  obtain ⟨rfl, rfl, rfl⟩ := trodAll_nil r0
  obtain rfl : args = #[v0] := by cases args; simp_all
  obtain ⟨rfl, rfl⟩ := trodVars_none hV
  have k0 := h0
  have lt0 : ∀ x ∈ p0, x.block < W.heap.size := by obtain ⟨m, hm⟩ := k0; exact DataW.trod_lt m _ _ _ hm
  have w0 : IsStmts W v0 := open_Stmts (hval 0 32 v0 rfl rfl) h0
  clear hA0 hval0
  refine (walk v0 W w0).mono fun e W' ⟨he, bel⟩ => ?_
  subst he
  exact ⟨_, rfl, _, _, _, [], _, [], hW', trodAll_mk1 (shut_bool Try.underlying4 _), (trodAll_cons_mk (Below.trod laidOut (by kernel_rfl) (of_decide_eq_true (by kernel_rfl)) k0 bel lt0) trodAll_mk0), rfl, bel.frame _, fun h => by cases h⟩

theorem over : Rows.fnExactLongestRunRow.holds Try.pinned (OpenSpec.ofChange Rows.fnExactLongestRunSpec) :=
  OpenClaim.holds_of_wide 7 Try.f7 rfl rfl rfl rfl rfl rfl rfl ⟨rfl, rfl, rfl, rfl, rfl⟩ rfl rfl rfl rfl rfl (by kernel_rfl) Try.func7 (by kernel_rfl)
    (of_decide_eq_true (by kernel_rfl)) (by unfold Func.isWrapper; first | (rw [if_pos (by decide +kernel)]; kernel_rfl) | (rw [if_neg (by decide +kernel)]; exact ⟨rfl, rfl⟩))
    (fun os started H enc _ => lifted os started H enc)

/-- ████ THE STATEMENT ████ -/
theorem proved : Rows.FnExactLongestRunSaid := over
#print axioms proved
end Go.Proofs.Ytdbgjcfcjehmbaa.fnExactLongestRun
