/- For every input the law FnClamped returns true and leaves its argument as it was; no condition. -/
import Derived.Test.YtmdpdfdiknfopaaRows
import Derived.WalkKit
import Derived.ProofKit
import Derived.OpenShut
import Derived.ShutString
import Derived.ChangeOld
import Derived.Below
import Derived.Lib.Hide
import Derived.Test.YtmdpdfdiknfopaaCur
namespace Go.Proofs.Ytmdpdfdiknfopaa.fnClamped
open Go.ChangeShapes Go.WideShapes Go.ChangeAt Go.RowKit
open Go.ChangeMaps (open_string shut_string)
set_option linter.unusedVariables false

theorem own : ownKnob Try.prog.godebug = none := by kernel_rfl
theorem laidOut : laidOutB Try.prog = true := by kernel_rfl

/-- WHAT THE WALK IS TOLD OF A SLICE OF INTEGERS THAT CAME IN: it is nil; or it leads to a row of 'cap' cells, the numbers 'zs' (the first 'len' are its elements, the rest its spare room), each fitting its kind. -/
def IsRow (k : IntKind) (w : World) (a : Option Addr) (len cap : Nat) (zs : List Int) : Prop :=
  (a = none ∧ len = 0 ∧ cap = 0 ∧ zs = []) ∨
  ∃ x, a = some x ∧ len ≤ cap ∧ cap ≤ maxLen ∧ zs.length = cap ∧ (∀ i, i < zs.length → w.cell? (x.add i) = some (.int k (zs.getD i 0))) ∧ ∀ n ∈ zs, (Lit.int k n).wf = true

open Go.Proofs.Ytmdpdfdiknfopaa.cur
theorem ret_int {k : IntKind} {a b : Int} (h : a = b) : Ending.returned (.int k a) = .returned (.int k b) := by rw [h]
def clampV (n low high : Int) : Int := if high < low then low else if n < low then low else if high < n then high else n
theorem impl_any (a0 a1 a2 : Int) (w : World) :
    Calls Try.prog 10 #[.int .i64 a0, .int .i64 a1, .int .i64 a2] w fun e w' => e = .returned (.int .i64 (clampV a0 a1 a2)) ∧ w = w' := by
  by_cases h1 : a2 < a1 <;> by_cases h2 : a0 < a1 <;> by_cases h3 : a2 < a0
  all_goals
    have hv : clampV a0 a1 a2 = if a2 < a1 then a1 else if a0 < a1 then a1 else if a2 < a0 then a2 else a0 := rfl
    simp only [h1, h2, h3, if_true, if_false] at hv
    have HV := Lib.hid hv
    clear hv
    go_enter Try.func10, Try.ntmps10
    go_wp2
    go_ret
    exact ⟨ret_int HV.out.symm, rfl⟩
theorem impl_is (a0 a1 a2 v : Int) (w : World) (h : clampV a0 a1 a2 = v) :
    Calls Try.prog 10 #[.int .i64 a0, .int .i64 a1, .int .i64 a2] w fun e w' => e = .returned (.int .i64 v) ∧ w = w' := by
  subst h; exact impl_any a0 a1 a2 w

def Three (w : World) (e : Ending) (w' : World) : Prop := ∃ x y z : Int, e = .returned (.tuple #[.int .i64 x, .int .i64 y, .int .i64 z]) ∧ Below w.heap.size w w'
theorem draw_any (a : Option Addr) (len cap : Nat) (w : World) (hlm : (len : Int) ≤ 1048576) (hb : ∀ i : Nat, i < len → ∃ (b off : Nat) (v : Int), a = some ⟨b, off, none⟩ ∧ w.cell? ⟨b, off + i, none⟩ = some (.int .u8 v)) :
    Calls Try.prog 9 #[.slice a len cap] w (Three w) := by
  have HB := Lib.hid hb
  clear hb
  go_enter Try.func9, Try.ntmps9
  go_wp2_with (go_at_call 21; refine (new_any a len cap _ hlm HB.out).mono ?_; rintro e w1 ⟨rfl, hc1, hb1⟩; refine Hid.out ?_)
  have hg0 := grownBy_refl w1 (some w.heap.size)
  have fin : Hid (∀ w', w1.grownBy w' (some w.heap.size) → Below w.heap.size w w') := fun w' g => hb1.grown g hb1.size (fun k hk => by cases hk; exact Nat.le_refl _)
  refine Lib.hid ?_
  go_wp2_with (first
    | (go_at_call 22; refine (once_from w1 _ a len cap _ (by omega) _ (by assumption) (by assumption)).mono ?_; rintro e w2 ⟨x, rfl, hc2, hg2⟩)
    | (go_at_call 24; refine (below_from w1 _ a len cap _ (by omega) _ (by assumption) (by assumption)).mono ?_; rintro e w2 ⟨x, rfl, hx0, hx1, hc2, hg2⟩)
    | (go_at_call 23; refine (number_from w1 _ a len cap _ (by assumption) (by assumption)).mono ?_; rintro e w2 ⟨x, rfl, hxw, hc2, hg2⟩))
  all_goals
    go_ret3
    exact ⟨_, _, _, rfl, fin.out _ (by assumption)⟩

theorem clamp_low {n a b : Int} (h : b < a ∨ n < a) : clampV n a b = a := by
  unfold clampV; by_cases h1 : b < a
  · rw [if_pos h1]
  · rw [if_neg h1, if_pos (by omega)]
theorem clamp_high {n a b : Int} (h : ¬ b < a) (h2 : b < n) : clampV n a b = b := by
  unfold clampV; rw [if_neg h, if_neg (by omega), if_pos h2]
theorem clamp_in {n a b : Int} (h : ¬ b < a) (h1 : ¬ n < a) (h2 : ¬ b < n) : clampV n a b = n := by
  unfold clampV; rw [if_neg h, if_neg h1, if_neg h2]

theorem walk (a0 : Option Addr) (len0 cap0 : Nat) (z0 : List Int) (w : World) (w0 : IsRow .u8 w a0 len0 cap0 z0) :
    Calls Try.prog 3 #[.slice a0 len0 cap0] w fun e w' => e = .returned (.bool true) ∧ Below w.heap.size w w' := by
  have HB : Hid (∀ i : Nat, i < len0 → ∃ (b off : Nat) (v : Int), a0 = some ⟨b, off, none⟩ ∧ w.cell? ⟨b, off + i, none⟩ = some (.int .u8 v)) := by
    intro i hi
    rcases w0 with ⟨_, h0, _⟩ | ⟨x, rfl, hl, _, hz, hcell, _⟩
    · omega
    · obtain ⟨b, off, rfl, hc⟩ := ints_at hcell (by omega)
      exact ⟨b, off, _, rfl, hc i (by omega)⟩
  clear w0
  by_cases hbig : (1048576 : Int) < len0
  · go_enter Try.func3, Try.ntmps3
    go_wp2_with (go_at_call 8; refine (big_yes _ _ _ _ hbig).mono ?_; rintro e w1 ⟨rfl, rfl⟩)
    go_ret
    exact ⟨rfl, Below.refl _ _⟩
  · have hsm : (len0 : Int) ≤ 1048576 := by omega
    clear hbig
    have h735 := Lib.hid (show clampV 7 3 5 = 5 by decide)
    go_enter Try.func3, Try.ntmps3
    go_wp2_with (first
      | (go_at_call 8; refine (big_no _ _ _ _ hsm).mono ?_; rintro e w1 ⟨rfl, rfl⟩)
      | (go_at_call 9; refine (draw_any _ _ _ _ hsm HB.out).mono ?_; rintro e w1 ⟨n, a, b, rfl, hb1⟩; refine Hid.out ?_))
    by_cases hba : b < a
    · have h1 := Lib.hid (clamp_low (n := n) (Or.inl hba))
      refine Lib.hid ?_
      go_wp2_with (go_at_call 10; first
        | ((with_reducible refine (impl_is 7 3 5 5 _ h735.out).mono ?_); rintro e w1 ⟨rfl, rfl⟩)
        | ((with_reducible refine (impl_is n a b a _ h1.out).mono ?_); rintro e w1 ⟨rfl, rfl⟩))
      go_ret
      exact ⟨rfl, hb1⟩
    · by_cases hna : n < a
      · have h1 := Lib.hid (clamp_low (b := b) (Or.inr hna))
        have h2 := Lib.hid (clamp_in (n := a) hba (by omega) (by omega))
        have hab : a ≤ b := by omega
        refine Lib.hid ?_
        go_wp2_with (go_at_call 10; first
          | ((with_reducible refine (impl_is 7 3 5 5 _ h735.out).mono ?_); rintro e w1 ⟨rfl, rfl⟩)
          | ((with_reducible refine (impl_is n a b a _ h1.out).mono ?_); rintro e w1 ⟨rfl, rfl⟩)
          | ((with_reducible refine (impl_is a a b a _ h2.out).mono ?_); rintro e w1 ⟨rfl, rfl⟩))
        go_ret
        exact ⟨rfl, hb1⟩
      · by_cases hbn : b < n
        · have h1 := Lib.hid (clamp_high hba hbn)
          have h2 := Lib.hid (clamp_in (n := b) hba (by omega) (by omega))
          have hab : a ≤ b := by omega
          refine Lib.hid ?_
          go_wp2_with (go_at_call 10; first
            | ((with_reducible refine (impl_is 7 3 5 5 _ h735.out).mono ?_); rintro e w1 ⟨rfl, rfl⟩)
            | ((with_reducible refine (impl_is n a b b _ h1.out).mono ?_); rintro e w1 ⟨rfl, rfl⟩)
            | ((with_reducible refine (impl_is b a b b _ h2.out).mono ?_); rintro e w1 ⟨rfl, rfl⟩))
          go_ret
          exact ⟨rfl, hb1⟩
        · have h1 := Lib.hid (clamp_in (n := n) hba hna hbn)
          have hab : a ≤ b := by omega
          have han : a ≤ n := by omega
          have hnb : n ≤ b := by omega
          refine Lib.hid ?_
          go_wp2_with (go_at_call 10; first
            | ((with_reducible refine (impl_is 7 3 5 5 _ h735.out).mono ?_); rintro e w1 ⟨rfl, rfl⟩)
            | ((with_reducible refine (impl_is n a b n _ h1.out).mono ?_); rintro e w1 ⟨rfl, rfl⟩))
          go_ret
          exact ⟨rfl, hb1⟩

/-! ### THE ROW's STEP: WRITTEN OUT: LEAVE IT -/
set_option maxRecDepth 100000 in
theorem lifted (os : Os) (started : os.Started) (H : Type) (enc : TypeId × Value → H) :
    ReturnsInHanded {} Try.checked os 3 .any (Rows.fnClampedSpec.pre6 enc Try.prog Try.f3 Rows.fnClampedRow.domain false) (Rows.fnClampedSpec.post enc Try.prog Try.f3 false true false false) := by
  refine returnsInHanded_of_change (C := Try.checked) own started (by kernel_rfl) Try.func3
    (ChangeSpec.witness6 (enc := enc) (C := Try.checked) false ⟨#[], #[.slice none 0 0], []⟩ 8 (by kernel_rfl) (by kernel_rfl) (by kernel_rfl) (by kernel_rfl)) ?_
  intro W base args ds gs before hval0 hW hcnd _
  have hval : ∀ (j : Nat) t v, Try.f3.params[j]? = some t → args[j]? = some v → Value.okWide Try.prog W .any base t v := hval0
  have hW' := hW
  obtain ⟨p, q, hA0, hV, rfl, hfz, hnd⟩ := hW
  have hA : DataW.TrodAll enc Try.prog W 0 (fun _ => true) true Try.f3.params.toList args.toList ds p := hA0
  rw [Try.params3] at hA hval
  obtain ⟨v0, vs0, d0, ds0, p0, q0, hargs, rfl, rfl, h0, r0⟩ := trodAll_cons hA
  obtain ⟨rfl, rfl, rfl⟩ := trodAll_nil r0
  obtain rfl : args = #[v0] := by cases args; simp_all
  obtain ⟨rfl, rfl⟩ := trodVars_none hV
  obtain ⟨a0, len0, cap0, rfl⟩ := okWide_slice Try.underlying22 (hval 0 22 v0 rfl rfl)
  have k0 := h0
  have lt0 : ∀ x ∈ p0, x.block < W.heap.size := by obtain ⟨m, hm⟩ := k0; exact DataW.trod_lt m _ _ _ hm
  obtain ⟨z0, w0⟩ : ∃ zs, IsRow .u8 W a0 len0 cap0 zs := by
    obtain ⟨fuel, hf⟩ := h0
    rcases open_ints Try.underlying22 Try.underlying5 (by kernel_rfl) hf with ⟨hcs, _⟩ | ⟨x, l, c, zs, hcs, _, hl, hm, hz, _, hcell, hwz⟩
    · simp [Value.cells] at hcs
      obtain ⟨rfl, rfl, rfl⟩ := hcs
      exact ⟨[], .inl ⟨rfl, rfl, rfl, rfl⟩⟩
    · simp [Value.cells] at hcs
      obtain ⟨rfl, rfl, rfl⟩ := hcs
      exact ⟨zs, .inr ⟨_, rfl, hl, hm, by simpa using hz, hcell, hwz⟩⟩
  clear hA0 hval0
  refine (walk a0 len0 cap0 z0 W w0).mono fun e W' ⟨he, bel⟩ => ?_
  subst he
  exact ⟨_, rfl, _, _, _, [], _, [], hW', trodAll_mk1 (shut_bool Try.underlying4 _), (trodAll_cons_mk (Below.trod laidOut (by kernel_rfl) (of_decide_eq_true (by kernel_rfl)) k0 bel lt0) trodAll_mk0), rfl, bel.frame _, fun h => by cases h⟩

theorem over : Rows.fnClampedRow.holds Try.pinned (OpenSpec.ofChange Rows.fnClampedSpec) :=
  OpenClaim.holds_of_wide 3 Try.f3 rfl rfl rfl rfl rfl rfl rfl ⟨rfl, rfl, rfl, rfl, rfl⟩ rfl rfl rfl rfl rfl (by kernel_rfl) Try.func3 (by kernel_rfl)
    (of_decide_eq_true (by kernel_rfl)) (by unfold Func.isWrapper; first | (rw [if_pos (by decide +kernel)]; kernel_rfl) | (rw [if_neg (by decide +kernel)]; exact ⟨rfl, rfl⟩))
    (fun os started H enc _ => lifted os started H enc)

/-- ████ THE STATEMENT ████ -/
theorem proved : Rows.FnClampedSaid := over
#print axioms proved
end Go.Proofs.Ytmdpdfdiknfopaa.fnClamped
