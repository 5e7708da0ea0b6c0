/- For every row of numbers FnExactMemNew returns true and leaves the row as it was; no condition. -/
import Derived.Test.YtekeonenbhmejaaRows
import Derived.WalkKit
import Derived.ProofKit
import Derived.OpenShut
import Derived.ShutString
import Derived.ChangeOld
import Derived.Below
import Derived.Test.YtekeonenbhmejaaMemV
namespace Go.Proofs.Ytekeonenbhmejaa.fnExactMemNew
open Go.ChangeShapes Go.WideShapes Go.ChangeAt Go.RowKit
open Go.ChangeMaps (open_string shut_string)
set_option linter.unusedVariables false

theorem own : ownKnob Try.prog.godebug = none := by kernel_rfl
theorem laidOut : laidOutB Try.prog = true := by kernel_rfl

/-- WHAT THE WALK IS TOLD OF A SLICE OF INTEGERS THAT CAME IN: it is nil; or it leads to a row of 'cap' cells, the numbers 'zs' (the first 'len' are its elements, the rest its spare room), each fitting its kind. -/
def IsRow (k : IntKind) (w : World) (a : Option Addr) (len cap : Nat) (zs : List Int) : Prop :=
  (a = none ∧ len = 0 ∧ cap = 0 ∧ zs = []) ∨
  ∃ x, a = some x ∧ len ≤ cap ∧ cap ≤ maxLen ∧ zs.length = cap ∧ (∀ i, i < zs.length → w.cell? (x.add i) = some (.int k (zs.getD i 0))) ∧ ∀ n ∈ zs, (Lit.int k n).wf = true

open Go.Proofs.Ytekeonenbhmejaa.row Go.Proofs.Ytekeonenbhmejaa.val Go.Proofs.Ytekeonenbhmejaa.expr Go.Proofs.Ytekeonenbhmejaa.ctl Go.Proofs.Ytekeonenbhmejaa.mem
theorem row_of {w : World} {a0 : Option Addr} {len0 cap0 : Nat} {z0 : List Int} (w0 : IsRow .i64 w a0 len0 cap0 z0) : Row w a0 len0 (z0.take len0) ∧ len0 ≤ maxLen ∧ ∀ x ∈ z0.take len0, -9223372036854775808 ≤ x ∧ x ≤ 9223372036854775807 := by
  rcases w0 with ⟨rfl, rfl, _, rfl⟩ | ⟨x, rfl, hl, hm, hz, hcell, hwf⟩
  · exact ⟨Row.none_ w, by decide, by simp⟩
  · exact ⟨Row.of_ints hl hz hcell, by omega, fun x hx => bounds_i64 (hwf x (List.mem_of_mem_take hx))⟩
theorem low_high {u v : Value} {b : Nat} (hv : ∀ q, v.ownBlock = some q → q < b) (hu : ∀ q, u.ownBlock = some q → b ≤ q) : v.ownBlock = none ∨ v.ownBlock ≠ u.ownBlock := by
  cases hq : v.ownBlock with
  | none => exact .inl rfl
  | some q => right; intro e; have := hv q hq; have := hu q e.symm; omega
theorem high_low {u v : Value} {b : Nat} (hv : ∀ q, v.ownBlock = some q → b ≤ q) (hu : ∀ q, u.ownBlock = some q → q < b) : v.ownBlock = none ∨ v.ownBlock ≠ u.ownBlock := by
  cases hq : v.ownBlock with
  | none => exact .inl rfl
  | some q => right; intro e; have := hv q hq; have := hu q e.symm; omega
theorem own_ge {w : World} {base n sz : Nat} {e : TypeId} {v : Value} {xs : List Value} (h : w.ownsRow base e sz v n xs) {b : Nat} (hb : b ≤ base) : ∀ q, v.ownBlock = some q → b ≤ q := fun q hq => Nat.le_trans hb (h.lt q hq).1
theorem none_ok (ad : Option Addr) (n c : Nat) : (Value.slice ad n c).ownBlock = none ∨ (Value.slice ad n c).ownBlock ≠ none := by cases ad <;> simp [Value.ownBlock]
set_option maxHeartbeats 8000000 in
set_option maxRecDepth 100000 in
theorem walk (a0 : Option Addr) (len0 cap0 : Nat) (z0 : List Int) (w : World) (w0 : IsRow .i64 w a0 len0 cap0 z0) :
    Calls Try.prog 6 #[.slice a0 len0 cap0] w fun e w' => e = .returned (.bool true) ∧ Below w.heap.size w w' := by
  obtain ⟨hR, hm, hwf⟩ := row_of w0
  clear w0
  unfold maxLen at hm
  obtain ⟨L, hL⟩ : ∃ L, L = z0.take len0 := ⟨_, rfl⟩
  rw [← hL] at hR hwf
  clear hL
  by_cases hbig : (1048576 : Int) < len0
  · go_enter Try.func6, Try.ntmps6
    go_wp2
    go_ret
    exact ⟨rfl, Below.refl _ _⟩
  · have hsm : (len0 : Int) ≤ 1048576 := by omega
    have HR := Lib.hid hR
    obtain ⟨M, hM⟩ : ∃ M, newV L = M := ⟨_, rfl⟩
    obtain ⟨r, hr⟩ : ∃ r, varsOk L = r := ⟨_, rfl⟩
    have hM64 : M.length ≤ 64 := by rw [← hM]; exact newV_len L
    have HSP := Lib.hid (show ∀ (w' : World) (a : Option Addr), Row w' a len0 L → Calls Try.prog 17 #[.slice a len0 len0] w' (NewMem w' 3 M r) from fun w' a h => by rw [← hM, ← hr]; exact spec_memnew' w' a len0 len0 L hsm (Nat.le_refl _) h)
    have HIP := Lib.hid (show ∀ (w' : World) (a : Option Addr), Row w' a len0 L → Calls Try.prog 19 #[.slice a len0 len0] w' (NewMem w' TM M r) from fun w' a h => by rw [← hM, ← hr]; exact impl_memnew' w' a len0 len0 L hsm (Nat.le_refl _) h hwf)
    clear hR hbig hM hwf hr
    go_enter Try.func6, Try.ntmps6
    go_wp2_with (go_at_call 18; refine (toInts_any _ _ _ _ L hsm HR.out).mono ?_; rintro e w1 ⟨a1, rfl, ho, hb⟩; refine Hid.out ?_)
    have H1 := Lib.hid (And.intro (Row.of_own ho) hb)
    clear ho hb
    refine Lib.hid ?_
    go_wp2_with (go_at_call 17; (with_reducible refine (HSP.out _ _ H1.out.1).mono ?_); rintro e w2 ⟨ad2, n2, cap2, rfl, ho, hb⟩; refine Hid.out ?_)
    have hn64 : (n2 : Int) ≤ 64 := by have := own_len ho; omega
    have HHI := Lib.hid (fun q hq => (ho.lt q hq).2)
    have H2 := Lib.hid (And.intro ho (below_then H1.out.2 hb))
    clear ho hb
    refine Lib.hid ?_
    go_wp2_with (go_at_call 18; refine (toInts_any _ _ _ _ L hsm (HR.out.below H2.out.2)).mono ?_; rintro e w3 ⟨a3, rfl, ho, hb⟩; refine Hid.out ?_)
    have h23 := hb.size
    have HX := Lib.hid (And.intro (own_ge ho (Nat.le_refl _)) (fun q hq => (ho.lt q hq).2))
    have H3 := Lib.hid (And.intro (H2.out.1.kept (grown_below hb none) (none_ok _ _ _)) (And.intro ho (below_then H2.out.2 hb)))
    clear ho hb
    refine Lib.hid ?_
    go_wp2_with (go_at_call 19; (with_reducible refine (HIP.out _ _ (Row.of_own H3.out.2.1)).mono ?_); rintro e w4 ⟨ad4, n4, cap4, rfl, ho, hb⟩; refine Hid.out ?_)
    obtain rfl : n4 = n2 := by have h1 := own_len ho; have h2 := own_len H3.out.1; omega
    have HS23 := Lib.hid h23
    have HG := Lib.hid (own_ge ho (Nat.le_refl _))
    have H4 := Lib.hid (And.intro (H3.out.1.kept (grown_below hb none) (none_ok _ _ _)) (And.intro (H3.out.2.1.kept (grown_below hb none) (none_ok _ _ _)) (And.intro ho (below_then H3.out.2.2 hb))))
    clear ho hb
    refine Lib.hid ?_
    go_wp2_with (go_at_call 20; refine (eqInts_any _ _ _ _ _ _ M (by omega) (Row.of_own H4.out.2.2.1) (Row.of_own H4.out.1)).mono ?_; rintro e w5 ⟨rfl, hg⟩; refine Hid.out ?_)
    have H5 := Lib.hid (And.intro (H4.out.1.kept hg (none_ok _ _ _)) (And.intro (H4.out.2.1.kept hg (none_ok _ _ _)) (And.intro (H4.out.2.2.1.kept hg (none_ok _ _ _)) (below_then H4.out.2.2.2 (below_grown hg)))))
    clear hg
    refine Lib.hid ?_
    go_wp2_with (go_at_call 18; refine (toInts_any _ _ _ _ L hsm (HR.out.below H5.out.2.2.2)).mono ?_; rintro e w6 ⟨a6, rfl, ho, hb⟩; refine Hid.out ?_)
    have H6 := Lib.hid (And.intro (H5.out.1.kept (grown_below hb none) (none_ok _ _ _)) (And.intro (H5.out.2.1.kept (grown_below hb none) (none_ok _ _ _)) (And.intro (H5.out.2.2.1.kept (grown_below hb none) (none_ok _ _ _)) (below_then H5.out.2.2.2 hb))))
    have HY := Lib.hid (Row.of_own ho)
    clear ho hb
    refine Lib.hid ?_
    go_wp2_with (go_at_call 20; refine (eqInts_any _ _ _ _ _ _ L (by omega) (Row.of_own H6.out.2.1) HY.out).mono ?_; rintro e w7 ⟨rfl, hg⟩; refine Hid.out ?_)
    have H7 := Lib.hid (And.intro (H6.out.1.kept hg (none_ok _ _ _)) (And.intro (H6.out.2.1.kept hg (none_ok _ _ _)) (And.intro (H6.out.2.2.1.kept hg (none_ok _ _ _)) (below_then H6.out.2.2.2 (below_grown hg)))))
    clear hg
    refine Lib.hid ?_
    go_wp2_with (go_at_call 21; refine (markInts_any _ _ _ _ _ 1 _ hsm (by omega) H7.out.2.1).mono ?_; rintro e w8 ⟨rfl, hg, L8, ho, hM8⟩; refine Hid.out ?_)
    have H8 := Lib.hid (And.intro (H7.out.1.kept hg (low_high HHI.out HX.out.1)) (And.intro ho (And.intro (H7.out.2.2.1.kept hg (high_low HG.out HX.out.2)) (H7.out.2.2.2.grown hg H7.out.2.2.2.size (fun q hq => Nat.le_trans H2.out.2.size (HX.out.1 q hq))))))
    have hk1 : ¬ ((1 : Int) + (len0 : Int)) < 0 := by omega
    clear ho hg hM8
    refine Lib.hid ?_
    go_wp2_with (go_at_call 20; refine (eqInts_any _ _ _ _ _ _ M (by omega) (Row.of_own H8.out.2.2.1) (Row.of_own H8.out.1)).mono ?_; rintro e w9 ⟨rfl, hg⟩; refine Hid.out ?_)
    have H9 := Lib.hid (And.intro (H8.out.1.kept hg (none_ok _ _ _)) (And.intro (H8.out.2.1.kept hg (none_ok _ _ _)) (And.intro (H8.out.2.2.1.kept hg (none_ok _ _ _)) (below_then H8.out.2.2.2 (below_grown hg)))))
    clear hg
    refine Lib.hid ?_
    go_wp2_with (go_at_call 21; refine (markInts_any _ _ _ _ _ 1 _ (by omega) (by omega) H9.out.2.2.1).mono ?_; rintro e w10 ⟨rfl, hg, L10, ho, hM10⟩; refine Hid.out ?_)
    have HM := Lib.hid hM10
    have H10 := Lib.hid (And.intro (H9.out.1.kept hg (low_high HHI.out (fun q hq => Nat.le_trans HS23.out (HG.out q hq)))) (And.intro (H9.out.2.1.kept hg (low_high HX.out.2 HG.out)) (And.intro ho (H9.out.2.2.2.grown hg H9.out.2.2.2.size (fun q hq => Nat.le_trans H3.out.2.2.size (HG.out q hq))))))
    clear ho hg hM10
    refine Lib.hid ?_
    go_wp2_with (go_at_call 22; refine (heldInts_any _ _ _ _ 1 _ (by omega) (by omega) (Row.of_own H10.out.2.2.1) HM.out).mono ?_; rintro e w11 ⟨rfl, hg⟩; refine Hid.out ?_)
    have H11 := Lib.hid (And.intro (H10.out.1.kept hg (none_ok _ _ _)) (And.intro (H10.out.2.1.kept hg (none_ok _ _ _)) (And.intro (H10.out.2.2.1.kept hg (none_ok _ _ _)) (below_then H10.out.2.2.2 (below_grown hg)))))
    clear hg
    refine Lib.hid ?_
    go_wp2_with (go_at_call 18; refine (toInts_any _ _ _ _ L hsm (HR.out.below H11.out.2.2.2)).mono ?_; rintro e w12 ⟨a12, rfl, ho, hb⟩; refine Hid.out ?_)
    have H12 := Lib.hid (And.intro (H11.out.1.kept (grown_below hb none) (none_ok _ _ _)) (And.intro (Row.of_own ho) (And.intro (H11.out.2.2.1.kept (grown_below hb none) (none_ok _ _ _)) (below_then H11.out.2.2.2 hb))))
    clear ho hb
    refine Lib.hid ?_
    go_wp2_with (go_at_call 19; (with_reducible refine (HIP.out _ _ H12.out.2.1).mono ?_); rintro e w13 ⟨ad13, n13, cap13, rfl, ho, hb⟩; refine Hid.out ?_)
    obtain rfl : n13 = n4 := by have h1 := own_len ho; have h2 := own_len H12.out.1; omega
    have H13 := Lib.hid (And.intro (H12.out.1.kept (grown_below hb none) (none_ok _ _ _)) (And.intro ho (And.intro (H12.out.2.2.1.kept (grown_below hb none) (none_ok _ _ _)) (below_then H12.out.2.2.2 hb))))
    clear ho hb
    refine Lib.hid ?_
    go_wp2_with (go_at_call 20; refine (eqInts_any _ _ _ _ _ _ M (by omega) (Row.of_own H13.out.2.1) (Row.of_own H13.out.1)).mono ?_; rintro e w14 ⟨rfl, hg⟩; refine Hid.out ?_)
    have H14 := Lib.hid (And.intro (H13.out.1.kept hg (none_ok _ _ _)) (And.intro (H13.out.2.1.kept hg (none_ok _ _ _)) (And.intro (H13.out.2.2.1.kept hg (none_ok _ _ _)) (below_then H13.out.2.2.2 (below_grown hg)))))
    clear hg
    refine Lib.hid ?_
    go_wp2_with (go_at_call 22; refine (heldInts_any _ _ _ _ 1 _ (by omega) (by omega) (Row.of_own H14.out.2.2.1) HM.out).mono ?_; rintro e w15 ⟨rfl, hg15⟩)
    go_ret
    exact ⟨rfl, below_then H14.out.2.2.2 (below_grown hg15)⟩

/-! ### THE ROW's STEP: WRITTEN OUT: LEAVE IT -/
set_option maxRecDepth 100000 in
theorem lifted (os : Os) (started : os.Started) (H : Type) (enc : TypeId × Value → H) :
    ReturnsInHanded {} Try.checked os 6 .any (Rows.fnExactMemNewSpec.pre6 enc Try.prog Try.f6 Rows.fnExactMemNewRow.domain false) (Rows.fnExactMemNewSpec.post enc Try.prog Try.f6 false true false false) := by
  refine returnsInHanded_of_change (C := Try.checked) own started (by kernel_rfl) Try.func6
    (ChangeSpec.witness6 (enc := enc) (C := Try.checked) false ⟨#[], #[.slice none 0 0], []⟩ 8 (by kernel_rfl) (by kernel_rfl) (by kernel_rfl) (by kernel_rfl)) ?_
  intro W base args ds gs before hval0 hW hcnd _
  have hval : ∀ (j : Nat) t v, Try.f6.params[j]? = some t → args[j]? = some v → Value.okWide Try.prog W .any base t v := hval0
  have hW' := hW
  obtain ⟨p, q, hA0, hV, rfl, hfz, hnd⟩ := hW
  have hA : DataW.TrodAll enc Try.prog W 0 (fun _ => true) true Try.f6.params.toList args.toList ds p := hA0
  rw [Try.params6] at hA hval
  obtain ⟨v0, vs0, d0, ds0, p0, q0, hargs, rfl, rfl, h0, r0⟩ := trodAll_cons hA
  obtain ⟨rfl, rfl, rfl⟩ := trodAll_nil r0
  obtain rfl : args = #[v0] := by cases args; simp_all
  obtain ⟨rfl, rfl⟩ := trodVars_none hV
  obtain ⟨a0, len0, cap0, rfl⟩ := okWide_slice Try.underlying24 (hval 0 24 v0 rfl rfl)
  have k0 := h0
  have lt0 : ∀ x ∈ p0, x.block < W.heap.size := by obtain ⟨m, hm⟩ := k0; exact DataW.trod_lt m _ _ _ hm
  obtain ⟨z0, w0⟩ : ∃ zs, IsRow .i64 W a0 len0 cap0 zs := by
    obtain ⟨fuel, hf⟩ := h0
    rcases open_ints Try.underlying24 Try.underlying3 (by kernel_rfl) hf with ⟨hcs, _⟩ | ⟨x, l, c, zs, hcs, _, hl, hm, hz, _, hcell, hwz⟩
    · simp [Value.cells] at hcs
      obtain ⟨rfl, rfl, rfl⟩ := hcs
      exact ⟨[], .inl ⟨rfl, rfl, rfl, rfl⟩⟩
    · simp [Value.cells] at hcs
      obtain ⟨rfl, rfl, rfl⟩ := hcs
      exact ⟨zs, .inr ⟨_, rfl, hl, hm, by simpa using hz, hcell, hwz⟩⟩
  clear hA0 hval0
  refine (walk a0 len0 cap0 z0 W w0).mono fun e W' ⟨he, bel⟩ => ?_
  subst he
  exact ⟨_, rfl, _, _, _, [], _, [], hW', trodAll_mk1 (shut_bool Try.underlying4 _), (trodAll_cons_mk (Below.trod laidOut (by kernel_rfl) (of_decide_eq_true (by kernel_rfl)) k0 bel lt0) trodAll_mk0), rfl, bel.frame _, fun h => by cases h⟩

theorem over : Rows.fnExactMemNewRow.holds Try.pinned (OpenSpec.ofChange Rows.fnExactMemNewSpec) :=
  OpenClaim.holds_of_wide 6 Try.f6 rfl rfl rfl rfl rfl rfl rfl ⟨rfl, rfl, rfl, rfl, rfl⟩ rfl rfl rfl rfl rfl (by kernel_rfl) Try.func6 (by kernel_rfl)
    (of_decide_eq_true (by kernel_rfl)) (by unfold Func.isWrapper; first | (rw [if_pos (by decide +kernel)]; kernel_rfl) | (rw [if_neg (by decide +kernel)]; exact ⟨rfl, rfl⟩))
    (fun os started H enc _ => lifted os started H enc)

/-- ████ THE STATEMENT ████ -/
theorem proved : Rows.FnExactMemNewSaid := over
#print axioms proved
end Go.Proofs.Ytekeonenbhmejaa.fnExactMemNew
