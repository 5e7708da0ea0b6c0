/- For every list of statements FnExactMayWrite returns true and leaves the list as it was; no condition. -/
import Derived.Test.YtjnijmbhlmphlaaRows
import Derived.WalkKit
import Derived.ProofKit
import Derived.OpenShut
import Derived.ShutString
import Derived.ChangeOld
import Derived.Below
import Derived.Test.YtjnijmbhlmphlaaGHub30
import Derived.Test.YtjnijmbhlmphlaaGHub31
import Derived.Test.YtjnijmbhlmphlaaGHub24
import Derived.Test.YtjnijmbhlmphlaaGHub28
import Derived.Test.YtjnijmbhlmphlaaGHub36
namespace Go.Proofs.Ytjnijmbhlmphlaa.fnExactMayWrite
open Go.ChangeShapes Go.WideShapes Go.ChangeAt Go.RowKit
open Go.ChangeMaps (open_string shut_string)
set_option linter.unusedVariables false

theorem own : ownKnob Try.prog.godebug = none := by kernel_rfl
theorem laidOut : laidOutB Try.prog = true := by kernel_rfl

open Go.Proofs.Ytjnijmbhlmphlaa.row Go.Proofs.Ytjnijmbhlmphlaa.val Go.Proofs.Ytjnijmbhlmphlaa.expr Go.Proofs.Ytjnijmbhlmphlaa.opn Go.Proofs.Ytjnijmbhlmphlaa.stm Go.Proofs.Ytjnijmbhlmphlaa.blk Go.Proofs.Ytjnijmbhlmphlaa.sets Go.Proofs.Ytjnijmbhlmphlaa.mrk
theorem own_low {w : World} {base n sz g : Nat} {e : TypeId} {v : Value} {xs : List Value} (h : w.ownsRow base e sz v n xs) (hg : g < base) : v.ownBlock = none ∨ v.ownBlock ≠ some g := by
  cases hv : v.ownBlock with
  | none => exact .inl rfl
  | some q => right; intro e2; have := (h.lt q hv).1; have := Option.some.inj e2; omega
theorem own_high {v : Value} {g : Nat} (h : ∀ q, v.ownBlock = some q → q < g) : v.ownBlock = none ∨ v.ownBlock ≠ some g := by
  cases hv : v.ownBlock with
  | none => exact .inl rfl
  | some q => right; intro e2; have := h q hv; have := Option.some.inj e2; omega
theorem own_apart {w : World} {base n sz b : Nat} {e : TypeId} {u v : Value} {xs : List Value} (hv : ∀ q, v.ownBlock = some q → q < b) (h : w.ownsRow base e sz u n xs) (hb : b ≤ base) : v.ownBlock = none ∨ v.ownBlock ≠ u.ownBlock := by
  cases hq : v.ownBlock with
  | none => exact .inl rfl
  | some q =>
    right; intro e2
    have := hv q hq
    have := (h.lt q e2.symm).1
    omega
theorem is_ex (p : Nat → Prop) : ∃ f, Is f p := by
  classical exact ⟨fun v => decide (p v), fun v _ => decide_eq_true_iff⟩
set_option maxHeartbeats 8000000 in
set_option maxRecDepth 100000 in
theorem walk (a0 : Value) (w : World) (w0 : IsStmts w a0) :
    Calls Try.prog 4 #[a0] w fun e w' => e = .returned (.bool true) ∧ Below w.heap.size w w' := by
  obtain ⟨ad, len, cap, L, rfl, hlm, hS⟩ := w0
  have hlm2 : (len : Int) ≤ 9223372036854775807 := by unfold maxLen at hlm; omega
  by_cases hbig : (1048576 : Int) < len
  · have hz : (1048576 : Int) - len < 0 := by omega
    have HZ := Lib.hid (show (if (1048576 : Int) - len < 0 then (-1 : Int) else (1048576 : Int) - len) = -1 from if_pos hz)
    clear hS hlm hz
    go_enter Try.func4, Try.ntmps4
    go_wp2_with (go_at_call 15; refine (sz_any _ _ _ _ hlm2 (by omega) (by omega) _).mono ?_; rw [HZ.out]; rintro e w1 ⟨rfl, rfl⟩)
    go_ret
    exact ⟨rfl, Below.refl _ _⟩
  · have hsm : (len : Int) ≤ 1048576 := by omega
    have hz : ¬ (1048576 : Int) - len < 0 := by omega
    have HZ := Lib.hid (show (if (1048576 : Int) - len < 0 then (-1 : Int) else (1048576 : Int) - len) = (1048576 : Int) - len from if_neg hz)
    have HS := Lib.hid hS
    have hl : L.length = len := hS.1
    obtain ⟨f, hf⟩ := is_ex (fun v => IsBlk L ∧ MayTo L len v)
    obtain ⟨M, hM⟩ : ∃ M, lst f 8 = M := ⟨_, rfl⟩
    have hM8 : M.length ≤ 8 := by rw [← hM]; exact lst_len f 8
    have HSP := Lib.hid (show ∀ (w' : World) (a : Option Addr) (c : Nat), StRow w' a len L → Calls Try.prog 12 #[.slice a len c] w' (NewInts w' M) from fun w' a c h => by rw [← hM]; exact spec_maywrite a len c L hsm w' h f hf)
    have HIP := Lib.hid (show ∀ (w' : World) (a : Option Addr) (c : Nat), StRow w' a len L → len ≤ c → Calls Try.prog 10 #[.slice a len c] w' (NewInts w' M) from fun w' a c h hc => by rw [← hM]; exact impl_maywrite a len c L hsm hc w' h f hf)
    clear hS hbig hlm hz hM hf
    go_enter Try.func4, Try.ntmps4
    go_wp2_with (first
      | (go_at_call 15; refine (sz_any _ _ _ _ hlm2 (by omega) (by omega) _).mono ?_; rw [HZ.out]; rintro e w1 ⟨rfl, rfl⟩)
      | (go_at_call 16; refine (toStmts_any _ _ _ _ L hsm HS.out).mono ?_; rintro e w2 ⟨rfl, hx2, hb2⟩; refine Hid.out ?_))
    have H2 := Lib.hid (And.intro (StRow.of_box' hx2 hl) hb2)
    have hs2 := hb2.size
    clear hx2 hb2
    refine Lib.hid ?_
    go_wp2_with (go_at_call 12; (with_reducible refine (HSP.out _ _ _ H2.out.1).mono ?_); rintro e w3 ⟨ad3, n3, cap3, rfl, ho3, hb3⟩; refine Hid.out ?_)
    have hn8 : (n3 : Int) ≤ 8 := by have := own_len ho3; omega
    have HHI := Lib.hid (fun q hq => (ho3.lt q hq).2)
    have H3 := Lib.hid (And.intro ho3 (below_then H2.out.2 hb3))
    have hs3 := hb3.size
    clear ho3 hb3
    refine Lib.hid ?_
    go_wp2_with (go_at_call 16; refine (toStmts_any _ _ _ _ L hsm (HS.out.below H3.out.2)).mono ?_; rintro e w4 ⟨rfl, hx4, hb4⟩; refine Hid.out ?_)
    have H4 := Lib.hid (And.intro (H3.out.1.kept (grown_below hb4 none) (by cases ad3 <;> simp [Value.ownBlock])) (And.intro hx4 (below_then H3.out.2 hb4)))
    have HX4 := Lib.hid (StRow.of_box' hx4 hl)
    have hs4 := hx4.lt
    clear hx4 hb4
    refine Lib.hid ?_
    go_wp2_with (go_at_call 10; (with_reducible refine (HIP.out _ _ _ HX4.out (Nat.le_refl _)).mono ?_); rintro e w5 ⟨ad5, n5, cap5, rfl, ho5, hb5⟩; refine Hid.out ?_)
    obtain rfl : n5 = n3 := by have h1 := own_len ho5; have h2 := own_len H4.out.1; omega
    have H5 := Lib.hid (And.intro ho5 (And.intro (H4.out.1.kept (grown_below hb5 none) (by cases ad3 <;> simp [Value.ownBlock])) (And.intro (H4.out.2.1.below hb5) (below_then H4.out.2.2 hb5))))
    clear ho5 hb5
    refine Lib.hid ?_
    go_wp2_with (go_at_call 17; refine (eqInts_any _ _ _ _ _ _ M (by omega) (Row.of_own H5.out.1) (Row.of_own H5.out.2.1)).mono ?_; rintro e w6 ⟨rfl, hg⟩; refine Hid.out ?_)
    have hb6 := below_grown hg
    have H6 := Lib.hid (And.intro (H5.out.1.kept hg (by cases ad5 <;> simp [Value.ownBlock])) (And.intro (H5.out.2.1.kept hg (by cases ad3 <;> simp [Value.ownBlock])) (And.intro (H5.out.2.2.1.below hb6) (below_then H5.out.2.2.2 hb6))))
    clear hg hb6
    refine Lib.hid ?_
    go_wp2_with (go_at_call 16; refine (toStmts_any _ _ _ _ L hsm (HS.out.below H6.out.2.2.2)).mono ?_; rintro e w7 ⟨rfl, hx7, hb7⟩; refine Hid.out ?_)
    have H7 := Lib.hid (And.intro (H6.out.1.kept (grown_below hb7 none) (by cases ad5 <;> simp [Value.ownBlock])) (And.intro (H6.out.2.1.kept (grown_below hb7 none) (by cases ad3 <;> simp [Value.ownBlock])) (And.intro (H6.out.2.2.1.below hb7) (below_then H6.out.2.2.2 hb7))))
    have HX7 := Lib.hid (StRow.of_box' hx7 hl)
    clear hx7 hb7
    refine Lib.hid ?_
    go_wp2_with (go_at_call 18; refine (eqStmts_any _ _ _ len len len L hsm (StRow.of_box' H7.out.2.2.1 hl) HX7.out).mono ?_; rintro e w8 ⟨rfl, hb8⟩; refine Hid.out ?_)
    have H8 := Lib.hid (And.intro (H7.out.1.kept (grown_below hb8 none) (by cases ad5 <;> simp [Value.ownBlock])) (And.intro (H7.out.2.1.kept (grown_below hb8 none) (by cases ad3 <;> simp [Value.ownBlock])) (And.intro (H7.out.2.2.1.below hb8) (below_then H7.out.2.2.2 hb8))))
    have hsz : len * 6 ≤ (stsC L).toArray.size := by simp [stsC_len, hl]
    have hkn : ¬ (1 + 6 * (len : Int)) < 0 := by omega
    clear hb8
    refine Lib.hid ?_
    go_wp2_with (go_at_call 19; (with_reducible refine (markstmts_any _ w3.heap.size len len _ _ H8.out.2.2.1 hsz 1 (by omega) (by omega) (by omega)).mono ?_); rintro e w9 ⟨rfl, hg9, _⟩; refine Hid.out ?_)
    have H9 := Lib.hid (And.intro (H8.out.1.kept hg9 (own_low H8.out.1 hs4)) (And.intro (H8.out.2.1.kept hg9 (own_high HHI.out)) (H8.out.2.2.2.grown hg9 H8.out.2.2.2.size (fun q hq => by cases hq; omega))))
    clear hg9
    refine Lib.hid ?_
    go_wp2_with (go_at_call 17; refine (eqInts_any _ _ _ _ _ _ M (by omega) (Row.of_own H9.out.1) (Row.of_own H9.out.2.1)).mono ?_; rintro e w10 ⟨rfl, hg⟩; refine Hid.out ?_)
    have H10 := Lib.hid (And.intro (H9.out.1.kept hg (by cases ad5 <;> simp [Value.ownBlock])) (And.intro (H9.out.2.1.kept hg (by cases ad3 <;> simp [Value.ownBlock])) (below_then H9.out.2.2 (below_grown hg))))
    clear hg
    refine Lib.hid ?_
    go_wp2_with (go_at_call 20; refine (markInts_any _ _ _ _ _ 1 _ (by omega) (by omega) H10.out.1).mono ?_; rintro e w11 ⟨rfl, hg11, L6, ho11, hM11⟩; refine Hid.out ?_)
    have H11 := Lib.hid (And.intro ho11 (And.intro (H10.out.2.1.kept hg11 (own_apart HHI.out H10.out.1 (Nat.le_of_lt hs4))) (H10.out.2.2.grown hg11 H10.out.2.2.size (fun q hq => by have := (H10.out.1.lt q hq).1; omega))))
    have HM11 := Lib.hid hM11
    clear ho11 hg11 hM11
    refine Lib.hid ?_
    go_wp2_with (go_at_call 21; refine (heldInts_any _ _ _ _ 1 _ (by omega) (by omega) (Row.of_own H11.out.1) HM11.out).mono ?_; rintro e w12 ⟨rfl, hg⟩; refine Hid.out ?_)
    have H12 := Lib.hid (And.intro (H11.out.1.kept hg (by cases ad5 <;> simp [Value.ownBlock])) (And.intro (H11.out.2.1.kept hg (by cases ad3 <;> simp [Value.ownBlock])) (below_then H11.out.2.2 (below_grown hg))))
    clear hg
    refine Lib.hid ?_
    go_wp2_with (go_at_call 16; refine (toStmts_any _ _ _ _ L hsm (HS.out.below H12.out.2.2)).mono ?_; rintro e w13 ⟨rfl, hx13, hb13⟩; refine Hid.out ?_)
    have H13 := Lib.hid (And.intro (H12.out.1.kept (grown_below hb13 none) (by cases ad5 <;> simp [Value.ownBlock])) (And.intro (H12.out.2.1.kept (grown_below hb13 none) (by cases ad3 <;> simp [Value.ownBlock])) (below_then H12.out.2.2 hb13)))
    have HX13 := Lib.hid (StRow.of_box' hx13 hl)
    clear hx13 hb13
    refine Lib.hid ?_
    go_wp2_with (go_at_call 10; (with_reducible refine (HIP.out _ _ _ HX13.out (Nat.le_refl _)).mono ?_); rintro e w14 ⟨ad14, n14, cap14, rfl, ho14, hb14⟩; refine Hid.out ?_)
    obtain rfl : n14 = n5 := by have h1 := own_len ho14; have h2 := own_len H13.out.2.1; omega
    have H14 := Lib.hid (And.intro (H13.out.1.kept (grown_below hb14 none) (by cases ad5 <;> simp [Value.ownBlock])) (And.intro (H13.out.2.1.kept (grown_below hb14 none) (by cases ad3 <;> simp [Value.ownBlock])) (And.intro ho14 (below_then H13.out.2.2 hb14))))
    clear ho14 hb14
    refine Lib.hid ?_
    go_wp2_with (go_at_call 17; refine (eqInts_any _ _ _ _ _ _ M (by omega) (Row.of_own H14.out.2.2.1) (Row.of_own H14.out.2.1)).mono ?_; rintro e w15 ⟨rfl, hg⟩; refine Hid.out ?_)
    have H15 := Lib.hid (And.intro (H14.out.1.kept hg (by cases ad5 <;> simp [Value.ownBlock])) (below_then H14.out.2.2.2 (below_grown hg)))
    clear hg
    refine Lib.hid ?_
    go_wp2_with (go_at_call 21; refine (heldInts_any _ _ _ _ 1 _ (by omega) (by omega) (Row.of_own H15.out.1) HM11.out).mono ?_; rintro e w16 ⟨rfl, hg16⟩)
    go_ret
    exact ⟨rfl, below_then H15.out.2 (below_grown hg16)⟩

/-! ### THE ROW's STEP -/
set_option maxRecDepth 100000 in
theorem lifted (os : Os) (started : os.Started) (H : Type) (enc : TypeId × Value → H) :
    ReturnsInHanded {} Try.checked os 4 .any (Rows.fnExactMayWriteSpec.pre6 enc Try.prog Try.f4 Rows.fnExactMayWriteRow.domain false) (Rows.fnExactMayWriteSpec.post enc Try.prog Try.f4 false true false false) := by
  refine returnsInHanded_of_change (C := Try.checked) own started (by kernel_rfl) Try.func4
    (ChangeSpec.witness6 (enc := enc) (C := Try.checked) false ⟨#[], #[.slice none 0 0], []⟩ 8 (by kernel_rfl) (by kernel_rfl) (by kernel_rfl) (by kernel_rfl)) ?_
  intro W base args ds gs before hval0 hW hcnd _
  have hval : ∀ (j : Nat) t v, Try.f4.params[j]? = some t → args[j]? = some v → Value.okWide Try.prog W .any base t v := hval0
  have hW' := hW
  obtain ⟨p, q, hA0, hV, rfl, hfz, hnd⟩ := hW
  have hA : DataW.TrodAll enc Try.prog W 0 (fun _ => true) true Try.f4.params.toList args.toList ds p := hA0
  rw [Try.params4] at hA hval
  obtain ⟨v0, vs0, d0, ds0, p0, q0, hargs, rfl, rfl, h0, r0⟩ := trodAll_cons hA
  obtain ⟨rfl, rfl, rfl⟩ := trodAll_nil r0
  obtain rfl : args = #[v0] := by cases args; simp_all
  obtain ⟨rfl, rfl⟩ := trodVars_none hV
  have k0 := h0
  have lt0 : ∀ x ∈ p0, x.block < W.heap.size := by obtain ⟨m, hm⟩ := k0; exact DataW.trod_lt m _ _ _ hm
  have w0 : IsStmts W v0 := open_Stmts (hval 0 33 v0 rfl rfl) h0
  clear hA0 hval0
  refine (walk v0 W w0).mono fun e W' ⟨he, bel⟩ => ?_
  subst he
  exact ⟨_, rfl, _, _, _, [], _, [], hW', trodAll_mk1 (shut_bool Try.underlying4 _), (trodAll_cons_mk (Below.trod laidOut (by kernel_rfl) (of_decide_eq_true (by kernel_rfl)) k0 bel lt0) trodAll_mk0), rfl, bel.frame _, fun h => by cases h⟩

theorem over : Rows.fnExactMayWriteRow.holds Try.pinned (OpenSpec.ofChange Rows.fnExactMayWriteSpec) :=
  OpenClaim.holds_of_wide 4 Try.f4 rfl rfl rfl rfl rfl rfl rfl ⟨rfl, rfl, rfl, rfl, rfl⟩ rfl rfl rfl rfl rfl (by kernel_rfl) Try.func4 (by kernel_rfl)
    (of_decide_eq_true (by kernel_rfl)) (by unfold Func.isWrapper; first | (rw [if_pos (by decide +kernel)]; kernel_rfl) | (rw [if_neg (by decide +kernel)]; exact ⟨rfl, rfl⟩))
    (fun os started H enc _ => lifted os started H enc)

/-- ████ THE STATEMENT ████ -/
theorem proved : Rows.FnExactMayWriteSaid := over
#print axioms proved
end Go.Proofs.Ytjnijmbhlmphlaa.fnExactMayWrite
