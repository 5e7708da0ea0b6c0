/- For every input the law FnSaturated returns true and leaves its argument as it was; no condition. -/
import Derived.Test.YtdaeoohpelhooaaRows
import Derived.WalkKit
import Derived.ProofKit
import Derived.OpenShut
import Derived.ShutString
import Derived.ChangeOld
import Derived.Below
import Derived.Test.YtdaeoohpelhooaaVal
import Derived.Test.YtdaeoohpelhooaaPlaces
namespace Go.Proofs.Ytdaeoohpelhooaa.fnSaturated
open Go.ChangeShapes Go.WideShapes Go.ChangeAt Go.RowKit
open Go.ChangeMaps (open_string shut_string)
set_option linter.unusedVariables false

theorem own : ownKnob Try.prog.godebug = none := by kernel_rfl
theorem laidOut : laidOutB Try.prog = true := by kernel_rfl

/-- WHAT THE WALK IS TOLD OF A SLICE OF INTEGERS THAT CAME IN: it is nil; or it leads to a row of 'cap' cells, the numbers 'zs' (the first 'len' are its elements, the rest its spare room), each fitting its kind. -/
def IsRow (k : IntKind) (w : World) (a : Option Addr) (len cap : Nat) (zs : List Int) : Prop :=
  (a = none ∧ len = 0 ∧ cap = 0 ∧ zs = []) ∨
  ∃ x, a = some x ∧ len ≤ cap ∧ cap ≤ maxLen ∧ zs.length = cap ∧ (∀ i, i < zs.length → w.cell? (x.add i) = some (.int k (zs.getD i 0))) ∧ ∀ n ∈ zs, (Lit.int k n).wf = true

open Go.Proofs.Ytdaeoohpelhooaa.val Go.Proofs.Ytdaeoohpelhooaa.cur
theorem sat_is (n v : Int) (w : World) (h : sat n = v) : Calls Try.prog 18 #[.int .i64 n] w (Ret w v) := by
  subst h; exact impl_sat n w
theorem val_is (n : Int) (v : Bool) (w : World) (h : isVal n = v) : Calls Try.prog 16 #[.int .i64 n] w (RetB w v) := by
  subst h; exact impl_isval n w
def One (w : World) (e : Ending) (w' : World) : Prop := ∃ x : Int, e = .returned (.int .i64 x) ∧ Below w.heap.size w w'
theorem draw_any (a : Option Addr) (len cap : Nat) (w : World) (hlm : (len : Int) ≤ 1048576) (hb : ∀ i : Nat, i < len → ∃ (b off : Nat) (v : Int), a = some ⟨b, off, none⟩ ∧ w.cell? ⟨b, off + i, none⟩ = some (.int .u8 v)) :
    Calls Try.prog 17 #[.slice a len cap] w (One w) := by
  have HB := Lib.hid hb
  clear hb
  go_enter Try.func17, Try.ntmps17
  go_wp2_with (go_at_call 24; refine (new_any a len cap _ hlm HB.out).mono ?_; rintro e w1 ⟨rfl, hc1, hb1⟩; refine Hid.out ?_)
  have hg0 := grownBy_refl w1 (some w.heap.size)
  have fin : Hid (∀ w', w1.grownBy w' (some w.heap.size) → Below w.heap.size w w') := fun w' g => hb1.grown g hb1.size (fun k hk => by cases hk; exact Nat.le_refl _)
  refine Lib.hid ?_
  go_wp2_with (go_at_call 25; refine (l02any_from w1 _ a len cap _ hc1 hg0).mono ?_; rintro e w2 ⟨x, rfl, hxw, hc2, hg2⟩)
  go_ret
  exact ⟨_, rfl, fin.out _ hg2⟩

theorem walk (a0 : Option Addr) (len0 cap0 : Nat) (z0 : List Int) (w : World) (w0 : IsRow .u8 w a0 len0 cap0 z0) :
    Calls Try.prog 4 #[.slice a0 len0 cap0] w fun e w' => e = .returned (.bool true) ∧ Below w.heap.size w w' := by
  have HB : Hid (∀ i : Nat, i < len0 → ∃ (b off : Nat) (v : Int), a0 = some ⟨b, off, none⟩ ∧ w.cell? ⟨b, off + i, none⟩ = some (.int .u8 v)) := by
    intro i hi
    rcases w0 with ⟨_, h0, _⟩ | ⟨x, rfl, hl, _, hz, hcell, _⟩
    · omega
    · obtain ⟨b, off, rfl, hc⟩ := ints_at hcell (by omega)
      exact ⟨b, off, _, rfl, hc i (by omega)⟩
  clear w0
  by_cases hbig : (1048576 : Int) < len0
  · go_enter Try.func4, Try.ntmps4
    go_wp2_with (go_at_call 10; refine (big_yes _ _ _ _ hbig).mono ?_; rintro e w1 ⟨rfl, rfl⟩)
    go_ret
    exact ⟨rfl, Below.refl _ _⟩
  · have hsm : (len0 : Int) ≤ 1048576 := by omega
    clear hbig
    go_enter Try.func4, Try.ntmps4
    go_wp2_with (first
      | (go_at_call 10; refine (big_no _ _ _ _ hsm).mono ?_; rintro e w1 ⟨rfl, rfl⟩)
      | (go_at_call 17; refine (draw_any _ _ _ _ hsm HB.out).mono ?_; rintro e w1 ⟨n, rfl, hb1⟩; refine Hid.out ?_))
    rcases (show n < -1000000 ∨ 1000000 < n ∨ (-1000000 ≤ n ∧ n ≤ 1000000) by omega) with h | h | ⟨h, h2⟩
    · have H1 := Lib.hid (sat_low h)
      have H2 := Lib.hid (show sat (-1000000) = -1000000 by decide)
      have H3 := Lib.hid (show isVal (-1000000) = true by decide)
      have H4 := Lib.hid (isVal_out (Or.inl h))
      have E : ((-1000000 : Int) == n) = false := by simp; omega
      have HE := Lib.hid E
      clear E
      refine Lib.hid ?_
      go_wp2_with (first
        | (go_at_call 18; first
          | ((with_reducible refine (sat_is n _ _ H1.out).mono ?_); rintro e w1 ⟨rfl, rfl⟩)
          | ((with_reducible refine (sat_is (-1000000) _ _ H2.out).mono ?_); rintro e w1 ⟨rfl, rfl⟩))
        | (go_at_call 16; first
          | ((with_reducible refine (val_is n _ _ H4.out).mono ?_); rintro e w1 ⟨rfl, rfl⟩)
          | ((with_reducible refine (val_is (-1000000) _ _ H3.out).mono ?_); rintro e w1 ⟨rfl, rfl⟩)))
      go_ret
      exact ⟨show Ending.returned (.bool !((-1000000 : Int) == n)) = _ by rw [HE.out]; rfl, hb1⟩
    · have H1 := Lib.hid (sat_high h)
      have H2 := Lib.hid (show sat 1000000 = 1000000 by decide)
      have H3 := Lib.hid (show isVal 1000000 = true by decide)
      have H4 := Lib.hid (isVal_out (Or.inr h))
      have E : ((1000000 : Int) == n) = false := by simp; omega
      have HE := Lib.hid E
      clear E
      refine Lib.hid ?_
      go_wp2_with (first
        | (go_at_call 18; first
          | ((with_reducible refine (sat_is n _ _ H1.out).mono ?_); rintro e w1 ⟨rfl, rfl⟩)
          | ((with_reducible refine (sat_is 1000000 _ _ H2.out).mono ?_); rintro e w1 ⟨rfl, rfl⟩))
        | (go_at_call 16; first
          | ((with_reducible refine (val_is n _ _ H4.out).mono ?_); rintro e w1 ⟨rfl, rfl⟩)
          | ((with_reducible refine (val_is 1000000 _ _ H3.out).mono ?_); rintro e w1 ⟨rfl, rfl⟩)))
      go_ret
      exact ⟨show Ending.returned (.bool !((1000000 : Int) == n)) = _ by rw [HE.out]; rfl, hb1⟩
    · have H1 := Lib.hid (sat_in h h2)
      have H3 := Lib.hid (isVal_in h h2)
      refine Lib.hid ?_
      go_wp2_with (first
        | (go_at_call 18; (with_reducible refine (sat_is n _ _ H1.out).mono ?_); rintro e w1 ⟨rfl, rfl⟩)
        | (go_at_call 16; (with_reducible refine (val_is n _ _ H3.out).mono ?_); rintro e w1 ⟨rfl, rfl⟩))
      go_ret
      exact ⟨rfl, hb1⟩

/-! ### THE ROW's STEP: WRITTEN OUT: LEAVE IT -/
set_option maxRecDepth 100000 in
theorem lifted (os : Os) (started : os.Started) (H : Type) (enc : TypeId × Value → H) :
    ReturnsInHanded {} Try.checked os 4 .any (Rows.fnSaturatedSpec.pre6 enc Try.prog Try.f4 Rows.fnSaturatedRow.domain false) (Rows.fnSaturatedSpec.post enc Try.prog Try.f4 false true false false) := by
  refine returnsInHanded_of_change (C := Try.checked) own started (by kernel_rfl) Try.func4
    (ChangeSpec.witness6 (enc := enc) (C := Try.checked) false ⟨#[], #[.slice none 0 0], []⟩ 8 (by kernel_rfl) (by kernel_rfl) (by kernel_rfl) (by kernel_rfl)) ?_
  intro W base args ds gs before hval0 hW hcnd _
  have hval : ∀ (j : Nat) t v, Try.f4.params[j]? = some t → args[j]? = some v → Value.okWide Try.prog W .any base t v := hval0
  have hW' := hW
  obtain ⟨p, q, hA0, hV, rfl, hfz, hnd⟩ := hW
  have hA : DataW.TrodAll enc Try.prog W 0 (fun _ => true) true Try.f4.params.toList args.toList ds p := hA0
  rw [Try.params4] at hA hval
  obtain ⟨v0, vs0, d0, ds0, p0, q0, hargs, rfl, rfl, h0, r0⟩ := trodAll_cons hA
  obtain ⟨rfl, rfl, rfl⟩ := trodAll_nil r0
  obtain rfl : args = #[v0] := by cases args; simp_all
  obtain ⟨rfl, rfl⟩ := trodVars_none hV
  obtain ⟨a0, len0, cap0, rfl⟩ := okWide_slice Try.underlying22 (hval 0 22 v0 rfl rfl)
  have k0 := h0
  have lt0 : ∀ x ∈ p0, x.block < W.heap.size := by obtain ⟨m, hm⟩ := k0; exact DataW.trod_lt m _ _ _ hm
  obtain ⟨z0, w0⟩ : ∃ zs, IsRow .u8 W a0 len0 cap0 zs := by
    obtain ⟨fuel, hf⟩ := h0
    rcases open_ints Try.underlying22 Try.underlying5 (by kernel_rfl) hf with ⟨hcs, _⟩ | ⟨x, l, c, zs, hcs, _, hl, hm, hz, _, hcell, hwz⟩
    · simp [Value.cells] at hcs
      obtain ⟨rfl, rfl, rfl⟩ := hcs
      exact ⟨[], .inl ⟨rfl, rfl, rfl, rfl⟩⟩
    · simp [Value.cells] at hcs
      obtain ⟨rfl, rfl, rfl⟩ := hcs
      exact ⟨zs, .inr ⟨_, rfl, hl, hm, by simpa using hz, hcell, hwz⟩⟩
  clear hA0 hval0
  refine (walk a0 len0 cap0 z0 W w0).mono fun e W' ⟨he, bel⟩ => ?_
  subst he
  exact ⟨_, rfl, _, _, _, [], _, [], hW', trodAll_mk1 (shut_bool Try.underlying4 _), (trodAll_cons_mk (Below.trod laidOut (by kernel_rfl) (of_decide_eq_true (by kernel_rfl)) k0 bel lt0) trodAll_mk0), rfl, bel.frame _, fun h => by cases h⟩

theorem over : Rows.fnSaturatedRow.holds Try.pinned (OpenSpec.ofChange Rows.fnSaturatedSpec) :=
  OpenClaim.holds_of_wide 4 Try.f4 rfl rfl rfl rfl rfl rfl rfl ⟨rfl, rfl, rfl, rfl, rfl⟩ rfl rfl rfl rfl rfl (by kernel_rfl) Try.func4 (by kernel_rfl)
    (of_decide_eq_true (by kernel_rfl)) (by unfold Func.isWrapper; first | (rw [if_pos (by decide +kernel)]; kernel_rfl) | (rw [if_neg (by decide +kernel)]; exact ⟨rfl, rfl⟩))
    (fun os started H enc _ => lifted os started H enc)

/-- ████ THE STATEMENT ████ -/
theorem proved : Rows.FnSaturatedSaid := over
#print axioms proved
end Go.Proofs.Ytdaeoohpelhooaa.fnSaturated
