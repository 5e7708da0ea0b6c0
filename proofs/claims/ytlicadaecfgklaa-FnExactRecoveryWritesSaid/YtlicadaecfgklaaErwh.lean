/- For every row of numbers FnExactRecoveryWrites returns true and leaves the row as it was; no condition. -/
import Derived.Test.YtlicadaecfgklaaRows
import Derived.WalkKit
import Derived.ProofKit
import Derived.OpenShut
import Derived.ShutString
import Derived.ChangeOld
import Derived.Below
import Derived.Test.YtlicadaecfgklaaGHub10
import Derived.Test.YtlicadaecfgklaaGHub15
import Derived.Test.YtlicadaecfgklaaGHub16
import Derived.Test.YtlicadaecfgklaaGHub37
import Derived.Test.YtlicadaecfgklaaGHub39
import Derived.Deep.RegionHeld3
namespace Go.Proofs.Ytlicadaecfgklaa.fnExactRecoveryWrites
open Go.ChangeShapes Go.WideShapes Go.ChangeAt Go.RowKit
open Go.ChangeMaps (open_string shut_string)
set_option linter.unusedVariables false

theorem own : ownKnob Try.prog.godebug = none := by kernel_rfl
theorem laidOut : laidOutB Try.prog = true := by kernel_rfl

/-- WHAT THE WALK IS TOLD OF A SLICE OF INTEGERS THAT CAME IN: it is nil; or it leads to a row of 'cap' cells, the numbers 'zs' (the first 'len' are its elements, the rest its spare room), each fitting its kind. -/
def IsRow (k : IntKind) (w : World) (a : Option Addr) (len cap : Nat) (zs : List Int) : Prop :=
  (a = none ∧ len = 0 ∧ cap = 0 ∧ zs = []) ∨
  ∃ x, a = some x ∧ len ≤ cap ∧ cap ≤ maxLen ∧ zs.length = cap ∧ (∀ i, i < zs.length → w.cell? (x.add i) = some (.int k (zs.getD i 0))) ∧ ∀ n ∈ zs, (Lit.int k n).wf = true

open Go.Proofs.Ytlicadaecfgklaa.row Go.Proofs.Ytlicadaecfgklaa.val Go.Proofs.Ytlicadaecfgklaa.expr Go.Proofs.Ytlicadaecfgklaa.grow Go.Proofs.Ytlicadaecfgklaa.ctl Go.Proofs.Ytlicadaecfgklaa.wrt Go.Proofs.Ytlicadaecfgklaa.rcv
theorem row_of {w : World} {a0 : Option Addr} {len0 cap0 : Nat} {z0 : List Int} (w0 : IsRow .i64 w a0 len0 cap0 z0) : Row w a0 len0 (z0.take len0) ∧ len0 ≤ maxLen ∧ ∀ x ∈ z0.take len0, -9223372036854775808 ≤ x ∧ x ≤ 9223372036854775807 := by
  rcases w0 with ⟨rfl, rfl, _, rfl⟩ | ⟨x, rfl, hl, hm, hz, hcell, hwf⟩
  · exact ⟨Row.none_ w, by decide, by simp⟩
  · exact ⟨Row.of_ints hl hz hcell, by omega, fun x hx => bounds_i64 (hwf x (List.mem_of_mem_take hx))⟩
theorem low_high {u v : Value} {b : Nat} (hv : ∀ q, v.ownBlock = some q → q < b) (hu : ∀ q, u.ownBlock = some q → b ≤ q) : v.ownBlock = none ∨ v.ownBlock ≠ u.ownBlock := by
  cases hq : v.ownBlock with
  | none => exact .inl rfl
  | some q => right; intro e; have := hv q hq; have := hu q e.symm; omega
theorem high_low {u v : Value} {b : Nat} (hv : ∀ q, v.ownBlock = some q → b ≤ q) (hu : ∀ q, u.ownBlock = some q → q < b) : v.ownBlock = none ∨ v.ownBlock ≠ u.ownBlock := by
  cases hq : v.ownBlock with
  | none => exact .inl rfl
  | some q => right; intro e; have := hv q hq; have := hu q e.symm; omega
theorem own_ge {w : World} {base n sz : Nat} {e : TypeId} {v : Value} {xs : List Value} (h : w.ownsRow base e sz v n xs) {b : Nat} (hb : b ≤ base) : ∀ q, v.ownBlock = some q → b ≤ q := fun q hq => Nat.le_trans hb (h.lt q hq).1
theorem none_ok (ad : Option Addr) (n c : Nat) : (Value.slice ad n c).ownBlock = none ∨ (Value.slice ad n c).ownBlock ≠ none := by cases ad <;> simp [Value.ownBlock]
theorem none_ok9 (ad : Option Addr) (n c : Nat) : (Value.slice ad n c).ownBlock = none ∨ (Value.slice ad n c).ownBlock ≠ none := by cases ad <;> simp [Value.ownBlock]
set_option maxHeartbeats 8000000 in
set_option maxRecDepth 100000 in
theorem walk (a0 : Option Addr) (len0 cap0 : Nat) (z0 : List Int) (w : World) (w0 : IsRow .i64 w a0 len0 cap0 z0) :
    Calls Try.prog 3 #[.slice a0 len0 cap0] w fun e w' => e = .returned (.bool true) ∧ Below w.heap.size w w' := by
  obtain ⟨hR, hm, hwf⟩ := row_of w0
  clear w0
  unfold maxLen at hm
  obtain ⟨L, hL⟩ : ∃ L, L = z0.take len0 := ⟨_, rfl⟩
  rw [← hL] at hR hwf
  clear hL
  by_cases hbig : (1048576 : Int) < len0
  · go_enter Try.func3, Try.ntmps3
    go_wp2
    go_ret
    exact ⟨rfl, Below.refl _ _⟩
  · have hsm : (len0 : Int) ≤ 1048576 := by omega
    have HR := Lib.hid hR
    obtain ⟨q, hqI⟩ := recIs_ex L
    have hq9 := hqI.len
    have HSP := Lib.hid (show ∀ (w' : World) (a : Option Addr), Row w' a len0 L → Calls Try.prog 7 #[.slice a len0 len0] w' (NewWs w' q) from fun w' a h => spec_recw w' a len0 len0 L hsm h q hqI)
    have HIP := Lib.hid (show ∀ (w' : World) (a : Option Addr), Row w' a len0 L → Calls Try.prog 9 #[.slice a len0 len0] w' (NewWs w' q) from fun w' a h => impl_recw w' a len0 len0 L hsm (Nat.le_refl _) h (w8_of hwf) q hqI)
    clear hR hbig hqI hwf
    go_enter Try.func3, Try.ntmps3
    go_wp2_with (go_at_call 8; refine (toInts_any _ _ _ _ L hsm HR.out).mono ?_; rintro e w1 ⟨a1, rfl, ho, hb⟩; refine Hid.out ?_)
    have H1 := Lib.hid (And.intro (Row.of_own ho) hb)
    clear ho hb
    refine Lib.hid ?_
    go_wp2_with (go_at_call 7; (with_reducible refine (HSP.out _ _ H1.out.1).mono ?_); rintro e w2 ⟨aw, nw, cw, rfl, how, hb⟩; refine Hid.out ?_)
    have hnwq : q.length = nw := by have h9 := how.1; rw [writesC_len] at h9; omega
    have hnw : (nw : Int) ≤ 1048576 := by omega
    have hw2 := Lib.hid (fun b h => (how.lt b h).2)
    have H2 := Lib.hid (And.intro how (below_then H1.out.2 hb))
    clear how hb
    refine Lib.hid ?_
    go_wp2_with (go_at_call 8; refine (toInts_any _ _ _ _ L hsm (HR.out.below H2.out.2)).mono ?_; rintro e w3 ⟨a3, rfl, ho, hb⟩; refine Hid.out ?_)
    have HX := Lib.hid (And.intro (own_ge ho (Nat.le_refl _)) (fun b h => (ho.lt b h).2))
    have H3 := Lib.hid (And.intro (H2.out.1.kept (grown_below hb none) (none_ok9 _ _ _)) (And.intro ho (below_then H2.out.2 hb)))
    have HS23 := Lib.hid hb.size
    clear ho hb
    refine Lib.hid ?_
    go_wp2_with (go_at_call 9; (with_reducible refine (HIP.out _ _ (Row.of_own H3.out.2.1)).mono ?_); rintro e w4 ⟨ag, ng, cg, rfl, hog, hb⟩; refine Hid.out ?_)
    obtain rfl : ng = nw := by have h9 := hog.1; rw [writesC_len] at h9; omega
    have HG := Lib.hid (own_ge hog (Nat.le_refl _))
    have H4 := Lib.hid (And.intro (H3.out.1.kept (grown_below hb none) (none_ok9 _ _ _)) (And.intro (H3.out.2.1.kept (grown_below hb none) (none_ok9 _ _ _)) (And.intro hog (below_then H3.out.2.2 hb))))
    clear hog hb
    refine Lib.hid ?_
    go_wp2_with (go_at_call 10; (refine (eqWrites_any _ ag aw ng cg cw q hnw (row_own H4.out.2.2.1 hnwq) (row_own H4.out.1 hnwq)).mono ?_); rintro e w5 ⟨rfl, hb⟩; refine Hid.out ?_)
    have H5 := Lib.hid (And.intro (H4.out.1.kept (grown_below hb none) (none_ok9 _ _ _)) (And.intro (H4.out.2.1.kept (grown_below hb none) (none_ok9 _ _ _)) (And.intro (H4.out.2.2.1.kept (grown_below hb none) (none_ok9 _ _ _)) (below_then H4.out.2.2.2 hb))))
    clear hb
    refine Lib.hid ?_
    go_wp2_with (go_at_call 8; refine (toInts_any _ _ _ _ L hsm (HR.out.below H5.out.2.2.2)).mono ?_; rintro e w6 ⟨a6, rfl, ho, hb⟩; refine Hid.out ?_)
    have HY := Lib.hid (Row.of_own ho)
    clear ho
    have H6 := Lib.hid (And.intro (H5.out.1.kept (grown_below hb none) (none_ok9 _ _ _)) (And.intro (H5.out.2.1.kept (grown_below hb none) (none_ok9 _ _ _)) (And.intro (H5.out.2.2.1.kept (grown_below hb none) (none_ok9 _ _ _)) (below_then H5.out.2.2.2 hb))))
    clear hb
    refine Lib.hid ?_
    go_wp2_with (go_at_call 11; refine (eqInts_any _ _ _ _ _ _ L hsm (Row.of_own H6.out.2.1) HY.out).mono ?_; rintro e w7 ⟨rfl, hg⟩; refine Hid.out ?_)
    have H7 := Lib.hid (And.intro (H6.out.1.kept hg (none_ok9 _ _ _)) (And.intro (H6.out.2.1.kept hg (none_ok9 _ _ _)) (And.intro (H6.out.2.2.1.kept hg (none_ok9 _ _ _)) (H6.out.2.2.2.grown hg H6.out.2.2.2.size (fun b h => by cases h)))))
    clear hg
    refine Lib.hid ?_
    go_wp2_with (go_at_call 12; refine (markInts_any _ _ _ _ _ 1 _ hsm (by omega) H7.out.2.1).mono ?_; rintro e w8 ⟨rfl, hg, L8, ho, hM8⟩; refine Hid.out ?_)
    have H8 := Lib.hid (And.intro (H7.out.1.kept hg (low_high hw2.out HX.out.1)) (And.intro ho (And.intro (H7.out.2.2.1.kept hg (high_low HG.out HX.out.2)) (H7.out.2.2.2.grown hg H7.out.2.2.2.size (fun b h => Nat.le_trans H2.out.2.size (HX.out.1 b h))))))
    have hk1 : ¬ ((1 : Int) + (len0 : Int)) < 0 := by omega
    clear ho hg hM8
    refine Lib.hid ?_
    go_wp2_with (go_at_call 10; (refine (eqWrites_any _ ag aw ng cg cw q hnw (row_own H8.out.2.2.1 hnwq) (row_own H8.out.1 hnwq)).mono ?_); rintro e w9 ⟨rfl, hb⟩; refine Hid.out ?_)
    have H9 := Lib.hid (And.intro (H8.out.1.kept (grown_below hb none) (none_ok9 _ _ _)) (And.intro (H8.out.2.1.kept (grown_below hb none) (none_ok9 _ _ _)) (And.intro (H8.out.2.2.1.kept (grown_below hb none) (none_ok9 _ _ _)) (below_then H8.out.2.2.2 hb))))
    clear hb
    refine Lib.hid ?_
    have HM9 := Lib.hid (markwrites_own w9 w3.heap.size ag ng cg _ H9.out.2.2.1 hnw)
    have hm0 : ¬ 1 + 2 * (ng : Int) < 0 := by omega
    have hmm : ((1 + 2 * (ng : Int)) != 1 + 2 * (ng : Int)) = false := by simp
    go_wp2_with (go_at_call 13; (with_reducible refine HM9.out.mono ?_); rintro e w10 ⟨rfl, hg, hh⟩; refine Hid.out ?_)
    have H10 := Lib.hid (And.intro (H9.out.1.kept hg (low_high hw2.out (fun b h => Nat.le_trans HS23.out (HG.out b h)))) (And.intro hh (H9.out.2.2.2.grown hg H9.out.2.2.2.size (fun b h => Nat.le_trans H3.out.2.2.size (HG.out b h)))))
    have HHD := Lib.hid (heldwrites_own w10 ag ng cg hh hnw)
    clear hg hh
    refine Lib.hid ?_
    go_wp2_with (go_at_call 14; (with_reducible refine HHD.out.mono ?_); rintro e w11 ⟨rfl, rfl⟩; refine Hid.out ?_)
    refine Lib.hid ?_
    go_wp2_with (go_at_call 8; refine (toInts_any _ _ _ _ L hsm (HR.out.below H10.out.2.2)).mono ?_; rintro e w12 ⟨a12, rfl, ho, hb⟩; refine Hid.out ?_)
    have HY12 := Lib.hid (Row.of_own ho)
    have H12 := Lib.hid (And.intro (H10.out.1.kept (grown_below hb none) (none_ok9 _ _ _)) (And.intro (H10.out.2.1.below hb) (below_then H10.out.2.2 hb)))
    clear ho hb
    refine Lib.hid ?_
    go_wp2_with (go_at_call 9; (with_reducible refine (HIP.out _ _ HY12.out).mono ?_); rintro e w13 ⟨ah, nh, ch, rfl, hoh, hb⟩; refine Hid.out ?_)
    obtain rfl : ng = nh := by have h9 := hoh.1; rw [writesC_len] at h9; omega
    have H13 := Lib.hid (And.intro (H12.out.1.kept (grown_below hb none) (none_ok9 _ _ _)) (And.intro (H12.out.2.1.below hb) (below_then H12.out.2.2 hb)))
    have HE13 := Lib.hid (eqWrites_any w13 ah aw ng ch cw q hnw (row_own hoh hnwq) (row_own H13.out.1 hnwq))
    clear hoh hb
    refine Lib.hid ?_
    go_wp2_with (go_at_call 10; (with_reducible refine HE13.out.mono ?_); rintro e w14 ⟨rfl, hb⟩; refine Hid.out ?_)
    have HF := Lib.hid (below_then H13.out.2.2 hb)
    have HHE := Lib.hid (heldwrites_own w14 ag ng cg (H13.out.2.1.below hb) hnw)
    clear hb
    refine Lib.hid ?_
    go_wp2_with (go_at_call 14; (with_reducible refine HHE.out.mono ?_); rintro e w15 ⟨rfl, rfl⟩; refine Hid.out ?_)
    refine Lib.hid ?_
    go_wp2
    go_ret
    exact ⟨rfl, HF.out⟩

/-! ### THE ROW's STEP: WRITTEN OUT: LEAVE IT -/
set_option maxRecDepth 100000 in
theorem lifted (os : Os) (started : os.Started) (H : Type) (enc : TypeId × Value → H) :
    ReturnsInHanded {} Try.checked os 3 .any (Rows.fnExactRecoveryWritesSpec.pre6 enc Try.prog Try.f3 Rows.fnExactRecoveryWritesRow.domain false) (Rows.fnExactRecoveryWritesSpec.post enc Try.prog Try.f3 false true false false) := by
  refine returnsInHanded_of_change (C := Try.checked) own started (by kernel_rfl) Try.func3
    (ChangeSpec.witness6 (enc := enc) (C := Try.checked) false ⟨#[], #[.slice none 0 0], []⟩ 8 (by kernel_rfl) (by kernel_rfl) (by kernel_rfl) (by kernel_rfl)) ?_
  intro W base args ds gs before hval0 hW hcnd _
  have hval : ∀ (j : Nat) t v, Try.f3.params[j]? = some t → args[j]? = some v → Value.okWide Try.prog W .any base t v := hval0
  have hW' := hW
  obtain ⟨p, q, hA0, hV, rfl, hfz, hnd⟩ := hW
  have hA : DataW.TrodAll enc Try.prog W 0 (fun _ => true) true Try.f3.params.toList args.toList ds p := hA0
  rw [Try.params3] at hA hval
  obtain ⟨v0, vs0, d0, ds0, p0, q0, hargs, rfl, rfl, h0, r0⟩ := trodAll_cons hA
  obtain ⟨rfl, rfl, rfl⟩ := trodAll_nil r0
  obtain rfl : args = #[v0] := by cases args; simp_all
  obtain ⟨rfl, rfl⟩ := trodVars_none hV
  obtain ⟨a0, len0, cap0, rfl⟩ := okWide_slice Try.underlying22 (hval 0 22 v0 rfl rfl)
  have k0 := h0
  have lt0 : ∀ x ∈ p0, x.block < W.heap.size := by obtain ⟨m, hm⟩ := k0; exact DataW.trod_lt m _ _ _ hm
  obtain ⟨z0, w0⟩ : ∃ zs, IsRow .i64 W a0 len0 cap0 zs := by
    obtain ⟨fuel, hf⟩ := h0
    rcases open_ints Try.underlying22 Try.underlying3 (by kernel_rfl) hf with ⟨hcs, _⟩ | ⟨x, l, c, zs, hcs, _, hl, hm, hz, _, hcell, hwz⟩
    · simp [Value.cells] at hcs
      obtain ⟨rfl, rfl, rfl⟩ := hcs
      exact ⟨[], .inl ⟨rfl, rfl, rfl, rfl⟩⟩
    · simp [Value.cells] at hcs
      obtain ⟨rfl, rfl, rfl⟩ := hcs
      exact ⟨zs, .inr ⟨_, rfl, hl, hm, by simpa using hz, hcell, hwz⟩⟩
  clear hA0 hval0
  refine (walk a0 len0 cap0 z0 W w0).mono fun e W' ⟨he, bel⟩ => ?_
  subst he
  exact ⟨_, rfl, _, _, _, [], _, [], hW', trodAll_mk1 (shut_bool Try.underlying4 _), (trodAll_cons_mk (Below.trod laidOut (by kernel_rfl) (of_decide_eq_true (by kernel_rfl)) k0 bel lt0) trodAll_mk0), rfl, bel.frame _, fun h => by cases h⟩

theorem over : Rows.fnExactRecoveryWritesRow.holds Try.pinned (OpenSpec.ofChange Rows.fnExactRecoveryWritesSpec) :=
  OpenClaim.holds_of_wide 3 Try.f3 rfl rfl rfl rfl rfl rfl rfl ⟨rfl, rfl, rfl, rfl, rfl⟩ rfl rfl rfl rfl rfl (by kernel_rfl) Try.func3 (by kernel_rfl)
    (of_decide_eq_true (by kernel_rfl)) (by unfold Func.isWrapper; first | (rw [if_pos (by decide +kernel)]; kernel_rfl) | (rw [if_neg (by decide +kernel)]; exact ⟨rfl, rfl⟩))
    (fun os started H enc _ => lifted os started H enc)

/-- ████ THE STATEMENT ████ -/
theorem proved : Rows.FnExactRecoveryWritesSaid := over
#print axioms proved
end Go.Proofs.Ytlicadaecfgklaa.fnExactRecoveryWrites
