/- For every two rows of numbers FnExactFirstDiffering returns true and leaves both as they were; no condition. -/
import Derived.Test.YtmanplejhcjnaaaRows
import Derived.WalkKit
import Derived.ProofKit
import Derived.OpenShut
import Derived.ShutString
import Derived.ChangeOld
import Derived.Below
import Derived.Test.YtmanplejhcjnaaaWtK
import Derived.Test.YtmanplejhcjnaaaWtO
namespace Go.Proofs.Ytmanplejhcjnaaa.fnExactFirstDiffering
open Go.ChangeShapes Go.WideShapes Go.ChangeAt Go.RowKit
open Go.ChangeMaps (open_string shut_string)
set_option linter.unusedVariables false

theorem own : ownKnob Try.prog.godebug = none := by kernel_rfl
theorem laidOut : laidOutB Try.prog = true := by kernel_rfl

/-- WHAT THE WALK IS TOLD OF A SLICE OF INTEGERS THAT CAME IN: it is nil; or it leads to a row of 'cap' cells, the numbers 'zs' (the first 'len' are its elements, the rest its spare room), each fitting its kind. -/
def IsRow (k : IntKind) (w : World) (a : Option Addr) (len cap : Nat) (zs : List Int) : Prop :=
  (a = none ∧ len = 0 ∧ cap = 0 ∧ zs = []) ∨
  ∃ x, a = some x ∧ len ≤ cap ∧ cap ≤ maxLen ∧ zs.length = cap ∧ (∀ i, i < zs.length → w.cell? (x.add i) = some (.int k (zs.getD i 0))) ∧ ∀ n ∈ zs, (Lit.int k n).wf = true

open Go.Proofs.Ytmanplejhcjnaaa.row Go.Proofs.Ytmanplejhcjnaaa.val Go.Proofs.Ytmanplejhcjnaaa.expr Go.Proofs.Ytmanplejhcjnaaa.grow Go.Proofs.Ytmanplejhcjnaaa.wrt
theorem row_of {w : World} {a0 : Option Addr} {len0 cap0 : Nat} {z0 : List Int} (w0 : IsRow .i64 w a0 len0 cap0 z0) : Row w a0 len0 (z0.take len0) ∧ len0 ≤ maxLen := by
  rcases w0 with ⟨rfl, rfl, _, rfl⟩ | ⟨x, rfl, hl, hm, hz, hcell, hwf⟩
  · exact ⟨Row.none_ w, by decide⟩
  · exact ⟨Row.of_ints hl hz hcell, by omega⟩
set_option maxHeartbeats 8000000 in
set_option maxRecDepth 100000 in
theorem walk (a0 : Option Addr) (len0 cap0 : Nat) (z0 : List Int) (a1 : Option Addr) (len1 cap1 : Nat) (z1 : List Int) (w : World) (w0 : IsRow .i64 w a0 len0 cap0 z0) (w1 : IsRow .i64 w a1 len1 cap1 z1) :
    Calls Try.prog 7 #[.slice a0 len0 cap0, .slice a1 len1 cap1] w fun e w' => e = .returned (.bool true) ∧ Below w.heap.size w w' := by
  obtain ⟨hA, hmA⟩ := row_of w0
  obtain ⟨hB, hmB⟩ := row_of w1
  clear w0 w1
  unfold maxLen at hmA hmB
  obtain ⟨A, hLA⟩ : ∃ L, L = z0.take len0 := ⟨_, rfl⟩
  obtain ⟨B, hLB⟩ : ∃ L, L = z1.take len1 := ⟨_, rfl⟩
  rw [← hLA] at hA
  rw [← hLB] at hB
  clear hLA hLB
  by_cases hbigA : (1048576 : Int) < len0
  · go_enter Try.func7, Try.ntmps7
    go_wp2
    go_ret
    exact ⟨rfl, Below.refl _ _⟩
  by_cases hbigB : (1048576 : Int) < len1
  · go_enter Try.func7, Try.ntmps7
    go_wp2
    go_ret
    exact ⟨rfl, Below.refl _ _⟩
  have hA20 : (len0 : Int) ≤ 1048576 := by omega
  have hB20 : (len1 : Int) ≤ 1048576 := by omega
  obtain ⟨r, hr⟩ := fd_ex A B
  have HA := Lib.hid hA
  have HB := Lib.hid hB
  have HSP := Lib.hid (show ∀ (w' : World) (a b : Option Addr), Row w' a len0 A → Row w' b len1 B → Calls Try.prog 29 #[.slice a len0 len0, .slice b len1 len1] w' (BelI w' r) from fun w' a b h1 h2 => spec_first w' a b len0 len1 len0 len1 A B r hA20 hB20 h1 h2 hr)
  have HIP := Lib.hid (show ∀ (w' : World) (a b : Option Addr), Row w' a len0 A → Row w' b len1 B → Calls Try.prog 17 #[.slice a len0 len0, .slice b len1 len1] w' (BelI w' r) from fun w' a b h1 h2 => impl_first w' a b len0 len1 len0 len1 A B r hA20 hB20 h1 h2 hr)
  clear hA hB hr
  go_enter Try.func7, Try.ntmps7
  go_wp2_with (go_at_call 19; refine (toInts_any _ _ _ _ A hA20 HA.out).mono ?_; rintro e w1 ⟨a1', rfl, ho, hb⟩; refine Hid.out ?_)
  have H1 := Lib.hid (And.intro (Row.of_own ho) hb)
  clear ho hb
  refine Lib.hid ?_
  go_wp2_with (go_at_call 19; refine (toInts_any _ _ _ _ B hB20 (HB.out.below H1.out.2)).mono ?_; rintro e w2 ⟨a2, rfl, ho, hb⟩; refine Hid.out ?_)
  have H2 := Lib.hid (And.intro (H1.out.1.below hb) (And.intro (Row.of_own ho) (below_then H1.out.2 hb)))
  clear ho hb
  refine Lib.hid ?_
  go_wp2_with (go_at_call 29; (with_reducible refine (HSP.out _ _ _ H2.out.1 H2.out.2.1).mono ?_); rintro e w3 ⟨rfl, hb⟩; refine Hid.out ?_)
  have H3 := Lib.hid (below_then H2.out.2.2 hb)
  clear hb
  refine Lib.hid ?_
  go_wp2_with (go_at_call 19; refine (toInts_any _ _ _ _ A hA20 (HA.out.below H3.out)).mono ?_; rintro e w4 ⟨a4, rfl, ho, hb⟩; refine Hid.out ?_)
  have H4 := Lib.hid (And.intro (Row.of_own ho) (below_then H3.out hb))
  clear ho hb
  refine Lib.hid ?_
  go_wp2_with (go_at_call 19; refine (toInts_any _ _ _ _ B hB20 (HB.out.below H4.out.2)).mono ?_; rintro e w5 ⟨a5, rfl, ho, hb⟩; refine Hid.out ?_)
  have H5 := Lib.hid (And.intro (H4.out.1.below hb) (And.intro (Row.of_own ho) (below_then H4.out.2 hb)))
  clear ho hb
  refine Lib.hid ?_
  go_wp2_with (go_at_call 17; (with_reducible refine (HIP.out _ _ _ H5.out.1 H5.out.2.1).mono ?_); rintro e w6 ⟨rfl, hb⟩; refine Hid.out ?_)
  have H6 := Lib.hid (And.intro (H5.out.1.below hb) (And.intro (H5.out.2.1.below hb) (below_then H5.out.2.2 hb)))
  clear hb
  refine Lib.hid ?_
  go_wp2_with (go_at_call 19; refine (toInts_any _ _ _ _ A hA20 (HA.out.below H6.out.2.2)).mono ?_; rintro e w7 ⟨a7, rfl, ho, hb⟩; refine Hid.out ?_)
  have H7 := Lib.hid (And.intro (H6.out.1.below hb) (And.intro (H6.out.2.1.below hb) (And.intro (Row.of_own ho) (below_then H6.out.2.2 hb))))
  clear ho hb
  refine Lib.hid ?_
  go_wp2_with (go_at_call 21; refine (eqInts_any _ _ _ _ _ _ A hA20 H7.out.1 H7.out.2.2.1).mono ?_; rintro e w8 ⟨rfl, hg⟩; refine Hid.out ?_)
  have H8 := Lib.hid (And.intro (H7.out.2.1.below (below_grown hg)) (below_then H7.out.2.2.2 (below_grown hg)))
  clear hg
  refine Lib.hid ?_
  go_wp2_with (go_at_call 19; refine (toInts_any _ _ _ _ B hB20 (HB.out.below H8.out.2)).mono ?_; rintro e w9 ⟨a9, rfl, ho, hb⟩; refine Hid.out ?_)
  have H9 := Lib.hid (And.intro (H8.out.1.below hb) (And.intro (Row.of_own ho) (below_then H8.out.2 hb)))
  clear ho hb
  refine Lib.hid ?_
  go_wp2_with (go_at_call 21; refine (eqInts_any _ _ _ _ _ _ B hB20 H9.out.1 H9.out.2.1).mono ?_; rintro e w10 ⟨rfl, hg⟩; refine Hid.out ?_)
  have H10 := Lib.hid (below_then H9.out.2.2 (below_grown hg))
  clear hg
  refine Lib.hid ?_
  go_wp2
  go_ret
  exact ⟨rfl, H10.out⟩

/-! ### THE ROW's STEP: WRITTEN OUT: LEAVE IT -/
set_option maxRecDepth 100000 in
theorem lifted (os : Os) (started : os.Started) (H : Type) (enc : TypeId × Value → H) :
    ReturnsInHanded {} Try.checked os 7 .any (Rows.fnExactFirstDifferingSpec.pre6 enc Try.prog Try.f7 Rows.fnExactFirstDifferingRow.domain false) (Rows.fnExactFirstDifferingSpec.post enc Try.prog Try.f7 false true false false) := by
  refine returnsInHanded_of_change (C := Try.checked) own started (by kernel_rfl) Try.func7
    (ChangeSpec.witness6 (enc := enc) (C := Try.checked) false ⟨#[], #[.slice none 0 0, .slice none 0 0], []⟩ 8 (by kernel_rfl) (by kernel_rfl) (by kernel_rfl) (by kernel_rfl)) ?_
  intro W base args ds gs before hval0 hW hcnd _
  have hval : ∀ (j : Nat) t v, Try.f7.params[j]? = some t → args[j]? = some v → Value.okWide Try.prog W .any base t v := hval0
  have hW' := hW
  obtain ⟨p, q, hA0, hV, rfl, hfz, hnd⟩ := hW
  have hA : DataW.TrodAll enc Try.prog W 0 (fun _ => true) true Try.f7.params.toList args.toList ds p := hA0
  rw [Try.params7] at hA hval
  obtain ⟨v0, vs0, d0, ds0, p0, q0, hargs, rfl, rfl, h0, r0⟩ := trodAll_cons hA
  obtain ⟨v1, vs1, d1, ds1, p1, q1, rfl, rfl, rfl, h1, r1⟩ := trodAll_cons r0
  obtain ⟨rfl, rfl, rfl⟩ := trodAll_nil r1
  obtain rfl : args = #[v0, v1] := by cases args; simp_all
  obtain ⟨rfl, rfl⟩ := trodVars_none hV
  obtain ⟨a0, len0, cap0, rfl⟩ := okWide_slice Try.underlying24 (hval 0 24 v0 rfl rfl)
  have k0 := h0
  have lt0 : ∀ x ∈ p0, x.block < W.heap.size := by obtain ⟨m, hm⟩ := k0; exact DataW.trod_lt m _ _ _ hm
  obtain ⟨z0, w0⟩ : ∃ zs, IsRow .i64 W a0 len0 cap0 zs := by
    obtain ⟨fuel, hf⟩ := h0
    rcases open_ints Try.underlying24 Try.underlying3 (by kernel_rfl) hf with ⟨hcs, _⟩ | ⟨x, l, c, zs, hcs, _, hl, hm, hz, _, hcell, hwz⟩
    · simp [Value.cells] at hcs
      obtain ⟨rfl, rfl, rfl⟩ := hcs
      exact ⟨[], .inl ⟨rfl, rfl, rfl, rfl⟩⟩
    · simp [Value.cells] at hcs
      obtain ⟨rfl, rfl, rfl⟩ := hcs
      exact ⟨zs, .inr ⟨_, rfl, hl, hm, by simpa using hz, hcell, hwz⟩⟩
  obtain ⟨a1, len1, cap1, rfl⟩ := okWide_slice Try.underlying24 (hval 1 24 v1 rfl rfl)
  have k1 := h1
  have lt1 : ∀ x ∈ p1, x.block < W.heap.size := by obtain ⟨m, hm⟩ := k1; exact DataW.trod_lt m _ _ _ hm
  obtain ⟨z1, w1⟩ : ∃ zs, IsRow .i64 W a1 len1 cap1 zs := by
    obtain ⟨fuel, hf⟩ := h1
    rcases open_ints Try.underlying24 Try.underlying3 (by kernel_rfl) hf with ⟨hcs, _⟩ | ⟨x, l, c, zs, hcs, _, hl, hm, hz, _, hcell, hwz⟩
    · simp [Value.cells] at hcs
      obtain ⟨rfl, rfl, rfl⟩ := hcs
      exact ⟨[], .inl ⟨rfl, rfl, rfl, rfl⟩⟩
    · simp [Value.cells] at hcs
      obtain ⟨rfl, rfl, rfl⟩ := hcs
      exact ⟨zs, .inr ⟨_, rfl, hl, hm, by simpa using hz, hcell, hwz⟩⟩
  clear hA0 hval0
  refine (walk a0 len0 cap0 z0 a1 len1 cap1 z1 W w0 w1).mono fun e W' ⟨he, bel⟩ => ?_
  subst he
  exact ⟨_, rfl, _, _, _, [], _, [], hW', trodAll_mk1 (shut_bool Try.underlying4 _), (trodAll_cons_mk (Below.trod laidOut (by kernel_rfl) (of_decide_eq_true (by kernel_rfl)) k0 bel lt0) (trodAll_cons_mk (Below.trod laidOut (by kernel_rfl) (of_decide_eq_true (by kernel_rfl)) k1 bel lt1) trodAll_mk0)), rfl, bel.frame _, fun h => by cases h⟩

theorem over : Rows.fnExactFirstDifferingRow.holds Try.pinned (OpenSpec.ofChange Rows.fnExactFirstDifferingSpec) :=
  OpenClaim.holds_of_wide 7 Try.f7 rfl rfl rfl rfl rfl rfl rfl ⟨rfl, rfl, rfl, rfl, rfl⟩ rfl rfl rfl rfl rfl (by kernel_rfl) Try.func7 (by kernel_rfl)
    (of_decide_eq_true (by kernel_rfl)) (by unfold Func.isWrapper; first | (rw [if_pos (by decide +kernel)]; kernel_rfl) | (rw [if_neg (by decide +kernel)]; exact ⟨rfl, rfl⟩))
    (fun os started H enc _ => lifted os started H enc)

/-- ████ THE STATEMENT ████ -/
theorem proved : Rows.FnExactFirstDifferingSaid := over
#print axioms proved
end Go.Proofs.Ytmanplejhcjnaaa.fnExactFirstDiffering
