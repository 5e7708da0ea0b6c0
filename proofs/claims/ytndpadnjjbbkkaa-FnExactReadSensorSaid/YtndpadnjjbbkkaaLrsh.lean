/- For every argument FnExactReadSensor returns true and leaves its arguments as they were; no condition. -/
import Derived.Test.YtndpadnjjbbkkaaRows
import Derived.WalkKit
import Derived.ProofKit
import Derived.OpenShut
import Derived.ShutString
import Derived.ChangeOld
import Derived.Below
import Derived.Test.YtndpadnjjbbkkaaGHub18
import Derived.Test.YtndpadnjjbbkkaaGHub35
import Derived.Test.YtndpadnjjbbkkaaGHub34
import Derived.Test.YtndpadnjjbbkkaaGHub37
import Derived.Test.YtndpadnjjbbkkaaGHub39
import Derived.Test.YtndpadnjjbbkkaaGHub42
import Derived.Test.YtndpadnjjbbkkaaGHub47
import Derived.Test.YtndpadnjjbbkkaaGHub10
import Derived.Test.YtndpadnjjbbkkaaGHub19
import Derived.Test.YtndpadnjjbbkkaaGHub29
import Derived.Test.YtndpadnjjbbkkaaGHub48
import Derived.Deep.RegionHeld3
namespace Go.Proofs.Ytndpadnjjbbkkaa.fnExactReadSensor
open Go.ChangeShapes Go.WideShapes Go.ChangeAt Go.RowKit
open Go.ChangeMaps (open_string shut_string)
set_option linter.unusedVariables false

theorem own : ownKnob Try.prog.godebug = none := by kernel_rfl
theorem laidOut : laidOutB Try.prog = true := by kernel_rfl

/-- WHAT THE WALK IS TOLD OF A SLICE OF INTEGERS THAT CAME IN: it is nil; or it leads to a row of 'cap' cells, the numbers 'zs' (the first 'len' are its elements, the rest its spare room), each fitting its kind. -/
def IsRow (k : IntKind) (w : World) (a : Option Addr) (len cap : Nat) (zs : List Int) : Prop :=
  (a = none ∧ len = 0 ∧ cap = 0 ∧ zs = []) ∨
  ∃ x, a = some x ∧ len ≤ cap ∧ cap ≤ maxLen ∧ zs.length = cap ∧ (∀ i, i < zs.length → w.cell? (x.add i) = some (.int k (zs.getD i 0))) ∧ ∀ n ∈ zs, (Lit.int k n).wf = true

open Go.Proofs.Ytndpadnjjbbkkaa.row Go.Proofs.Ytndpadnjjbbkkaa.val Go.Proofs.Ytndpadnjjbbkkaa.expr Go.Proofs.Ytndpadnjjbbkkaa.exe
theorem row_of {w : World} {a0 : Option Addr} {len0 cap0 : Nat} {z0 : List Int} (w0 : IsRow .i64 w a0 len0 cap0 z0) : Row w a0 len0 (z0.take len0) ∧ len0 ≤ maxLen ∧ ∀ x ∈ z0.take len0, -9223372036854775808 ≤ x ∧ x ≤ 9223372036854775807 := by
  rcases w0 with ⟨rfl, rfl, _, rfl⟩ | ⟨x, rfl, hl, hm, hz, hcell, hwf⟩
  · exact ⟨Row.none_ w, by decide, by simp⟩
  · exact ⟨Row.of_ints hl hz hcell, by omega, fun x hx => bounds_i64 (hwf x (List.mem_of_mem_take hx))⟩
theorem low_high {u v : Value} {b : Nat} (hv : ∀ q, v.ownBlock = some q → q < b) (hu : ∀ q, u.ownBlock = some q → b ≤ q) : v.ownBlock = none ∨ v.ownBlock ≠ u.ownBlock := by
  cases hq : v.ownBlock with
  | none => exact .inl rfl
  | some q => right; intro e; have := hv q hq; have := hu q e.symm; omega
theorem high_low {u v : Value} {b : Nat} (hv : ∀ q, v.ownBlock = some q → b ≤ q) (hu : ∀ q, u.ownBlock = some q → q < b) : v.ownBlock = none ∨ v.ownBlock ≠ u.ownBlock := by
  cases hq : v.ownBlock with
  | none => exact .inl rfl
  | some q => right; intro e; have := hv q hq; have := hu q e.symm; omega
theorem own_ge {w : World} {base n sz : Nat} {e : TypeId} {v : Value} {xs : List Value} (h : w.ownsRow base e sz v n xs) {b : Nat} (hb : b ≤ base) : ∀ q, v.ownBlock = some q → b ≤ q := fun q hq => Nat.le_trans hb (h.lt q hq).1
theorem none_okx (ad : Option Addr) (n c : Nat) : (Value.slice ad n c).ownBlock = none ∨ (Value.slice ad n c).ownBlock ≠ none := by cases ad <;> simp [Value.ownBlock]
theorem blk_hi {g b n c : Nat} (h : g < b) : ∀ q, (Value.slice (some ⟨g, 0, none⟩) n c).ownBlock = some q → q < b := fun q hq => by cases hq; exact h
theorem blk_lo {g b n c : Nat} (h : b ≤ g) : ∀ q, (Value.slice (some ⟨g, 0, none⟩) n c).ownBlock = some q → b ≤ q := fun q hq => by cases hq; exact h
theorem own_apart2 {v : Value} {g b : Nat} (hv : ∀ q, v.ownBlock = some q → q < b) (hg : b ≤ g) : v.ownBlock = none ∨ v.ownBlock ≠ some g := by
  cases hq : v.ownBlock with
  | none => exact .inl rfl
  | some q => right; intro e; have := hv q hq; have := Option.some.inj e; omega
theorem own_apart3 {v : Value} {g b : Nat} (hv : ∀ q, v.ownBlock = some q → b ≤ q) (hg : g < b) : v.ownBlock = none ∨ v.ownBlock ≠ some g := by
  cases hq : v.ownBlock with
  | none => exact .inl rfl
  | some q => right; intro e; have := hv q hq; have := Option.some.inj e; omega
theorem box_apart {v : Value} {g b : Nat} (hg : g < b) (hv : ∀ q, v.ownBlock = some q → b ≤ q) : some g ≠ v.ownBlock := fun e => by have := hv g e.symm; omega
theorem box_apart2 {v : Value} {g b : Nat} (hv : ∀ q, v.ownBlock = some q → q < b) (hg : b ≤ g) : some g ≠ v.ownBlock := fun e => by have := hv g e.symm; omega
theorem drew_belowx {w w' : World} (h : Below w.drew.heap.size w.drew w') : Below w.heap.size w w' := (Below.drew (Below.refl _ w)).trans h
set_option maxHeartbeats 8000000 in
set_option maxRecDepth 100000 in
theorem walk (a0 : Option Addr) (len0 cap0 : Nat) (z0 : List Int) (a1 : Int) (a2 : Int) (w : World) (w0 : IsRow .i64 w a0 len0 cap0 z0) (w1 : (Lit.int .i64 a1).wf = true) (w2 : (Lit.int .i64 a2).wf = true) :
    Calls Try.prog 3 #[.slice a0 len0 cap0, .int .i64 a1, .int .i64 a2] w fun e w' => e = .returned (.bool true) ∧ Below w.heap.size w w' := by
  obtain ⟨hR0, hm0, hwf0⟩ := row_of w0
  clear w0
  unfold maxLen at hm0
  obtain ⟨L0, hL0⟩ : ∃ L, L = z0.take len0 := ⟨_, rfl⟩
  rw [← hL0] at hR0 hwf0
  clear hL0
  obtain ⟨n0, hn0⟩ : ∃ n, n = len0 := ⟨_, rfl⟩
  rw [← hn0] at hR0 hm0 ⊢
  clear hn0
  have HR0 := Lib.hid hR0
  have hwf1 := bounds_i64 w1
  have hwf2 := bounds_i64 w2
  by_cases hbig0 : (1048576 : Int) < n0
  · go_enter Try.func3, Try.ntmps3
    go_wp2
    go_ret
    exact ⟨rfl, (Below.refl _ _)⟩
  have hsm0 : (n0 : Int) ≤ 1048576 := by omega
  obtain ⟨r, hr⟩ : ∃ r : Int, readS L0 a1 a2 = r := ⟨_, rfl⟩
  have HSP := Lib.hid (show ∀ (w' : World) (b0 : Nat), Row w' (some ⟨b0, 0, none⟩) n0 L0 → Calls Try.prog 9 #[.slice (some ⟨b0, 0, none⟩) n0 n0, .int .i64 a1, .int .i64 a2] w' (BelI w' r) from fun w' b0 h0 => by rw [← hr]; exact (spec_readsensor w' (some ⟨b0, 0, none⟩) n0 n0 L0 hsm0 h0 a1 a2).mono fun _ _ h => ⟨h.1, h.2 ▸ Below.refl _ _⟩)
  have HIP := Lib.hid (show ∀ (w' : World) (b0 : Nat), Row w' (some ⟨b0, 0, none⟩) n0 L0 → Calls Try.prog 11 #[.slice (some ⟨b0, 0, none⟩) n0 n0, .int .i64 a1, .int .i64 a2] w' (BelI w' r) from fun w' b0 h0 => by rw [← hr]; exact impl_readsensor w' (some ⟨b0, 0, none⟩) n0 n0 L0 hsm0 h0 a1 a2)
  clear hR0 hr hwf0 hwf1 hwf2 hbig0
  go_enter Try.func3, Try.ntmps3
  have H0 := Lib.hid (Below.refl w.heap.size w)
  go_wp2_with (go_at_call 10; refine (toInts_new _ _ _ _ L0 hsm0 (HR0.out.below H0.out)).mono ?_; rintro e w1 ⟨gw1, rfl, how1, hbw1⟩; refine Hid.out ?_)
  have HZ1 := Lib.hid hbw1.size
  have HLo_tres00 := Lib.hid (own_ge how1 (Nat.le_refl _))
  have HHi_tres00 := Lib.hid (fun q hq => (how1.lt q hq).2)
  have H1 := Lib.hid (And.intro how1 (below_then H0.out hbw1))
  clear how1 hbw1
  refine Lib.hid ?_
  go_wp2_with (go_at_call 9; (with_reducible refine (HSP.out _ _ (Row.of_own H1.out.1)).mono ?_); rintro e w2 ⟨rfl, hbw2⟩; refine Hid.out ?_)
  have HZ2 := Lib.hid hbw2.size
  have H2 := Lib.hid (below_then H1.out.2 hbw2)
  clear hbw2
  refine Lib.hid ?_
  go_wp2_with (go_at_call 10; refine (toInts_new _ _ _ _ L0 hsm0 (HR0.out.below H2.out)).mono ?_; rintro e w3 ⟨gw3, rfl, how3, hbw3⟩; refine Hid.out ?_)
  have HZ3 := Lib.hid hbw3.size
  have HLo_x0 := Lib.hid (own_ge how3 (Nat.le_refl _))
  have HHi_x0 := Lib.hid (fun q hq => (how3.lt q hq).2)
  have H3 := Lib.hid (And.intro how3 (below_then H2.out hbw3))
  clear how3 hbw3
  refine Lib.hid ?_
  go_wp2_with (go_at_call 11; (with_reducible refine (HIP.out _ _ (Row.of_own H3.out.1)).mono ?_); rintro e w4 ⟨rfl, hbw4⟩; refine Hid.out ?_)
  have HZ4 := Lib.hid hbw4.size
  have H4 := Lib.hid (And.intro (H3.out.1.kept (grown_below hbw4 none) (none_okx _ _ _)) (below_then H3.out.2 hbw4))
  clear hbw4
  refine Lib.hid ?_
  go_wp2_with (go_at_call 10; refine (toInts_new _ _ _ _ L0 hsm0 (HR0.out.below H4.out.2)).mono ?_; rintro e w5 ⟨gw5, rfl, how5, hbw5⟩; refine Hid.out ?_)
  have HZ5 := Lib.hid hbw5.size
  have HLo_y0 := Lib.hid (own_ge how5 (Nat.le_refl _))
  have HHi_y0 := Lib.hid (fun q hq => (how5.lt q hq).2)
  have H5 := Lib.hid (And.intro (H4.out.1.kept (grown_below hbw5 none) (none_okx _ _ _)) (And.intro how5 (below_then H4.out.2 hbw5)))
  clear how5 hbw5
  refine Lib.hid ?_
  go_wp2_with (go_at_call 12; refine (eqInts_any _ _ _ _ _ _ L0 hsm0 (Row.of_own H5.out.1) (Row.of_own H5.out.2.1)).mono ?_; rintro e w6 ⟨rfl, hg⟩; refine Hid.out ?_)
  have HZ6 := Lib.hid hg.size
  have H6 := Lib.hid (And.intro (H5.out.1.kept (grown_below (below_grown hg) none) (none_okx _ _ _)) (below_then H5.out.2.2 (below_grown hg)))
  clear hg
  refine Lib.hid ?_
  go_wp2
  go_ret
  exact ⟨rfl, H6.out.2⟩

/-! ### THE ROW's STEP: WRITTEN OUT: LEAVE IT -/
set_option maxRecDepth 100000 in
theorem lifted (os : Os) (started : os.Started) (H : Type) (enc : TypeId × Value → H) :
    ReturnsInHanded {} Try.checked os 3 .any (Rows.fnExactReadSensorSpec.pre6 enc Try.prog Try.f3 Rows.fnExactReadSensorRow.domain false) (Rows.fnExactReadSensorSpec.post enc Try.prog Try.f3 false true false false) := by
  refine returnsInHanded_of_change (C := Try.checked) own started (by kernel_rfl) Try.func3
    (ChangeSpec.witness6 (enc := enc) (C := Try.checked) false ⟨#[], #[.slice none 0 0, .int .i64 0, .int .i64 0], []⟩ 8 (by kernel_rfl) (by kernel_rfl) (by kernel_rfl) (by kernel_rfl)) ?_
  intro W base args ds gs before hval0 hW hcnd _
  have hval : ∀ (j : Nat) t v, Try.f3.params[j]? = some t → args[j]? = some v → Value.okWide Try.prog W .any base t v := hval0
  have hW' := hW
  obtain ⟨p, q, hA0, hV, rfl, hfz, hnd⟩ := hW
  have hA : DataW.TrodAll enc Try.prog W 0 (fun _ => true) true Try.f3.params.toList args.toList ds p := hA0
  rw [Try.params3] at hA hval
  obtain ⟨v0, vs0, d0, ds0, p0, q0, hargs, rfl, rfl, h0, r0⟩ := trodAll_cons hA
  obtain ⟨v1, vs1, d1, ds1, p1, q1, rfl, rfl, rfl, h1, r1⟩ := trodAll_cons r0
  obtain ⟨v2, vs2, d2, ds2, p2, q2, rfl, rfl, rfl, h2, r2⟩ := trodAll_cons r1
  obtain ⟨rfl, rfl, rfl⟩ := trodAll_nil r2
  obtain rfl : args = #[v0, v1, v2] := by cases args; simp_all
  obtain ⟨rfl, rfl⟩ := trodVars_none hV
  obtain ⟨a0, len0, cap0, rfl⟩ := okWide_slice Try.underlying22 (hval 0 22 v0 rfl rfl)
  have k0 := h0
  have lt0 : ∀ x ∈ p0, x.block < W.heap.size := by obtain ⟨m, hm⟩ := k0; exact DataW.trod_lt m _ _ _ hm
  obtain ⟨z0, w0⟩ : ∃ zs, IsRow .i64 W a0 len0 cap0 zs := by
    obtain ⟨fuel, hf⟩ := h0
    rcases open_ints Try.underlying22 Try.underlying3 (by kernel_rfl) hf with ⟨hcs, _⟩ | ⟨x, l, c, zs, hcs, _, hl, hm, hz, _, hcell, hwz⟩
    · simp [Value.cells] at hcs
      obtain ⟨rfl, rfl, rfl⟩ := hcs
      exact ⟨[], .inl ⟨rfl, rfl, rfl, rfl⟩⟩
    · simp [Value.cells] at hcs
      obtain ⟨rfl, rfl, rfl⟩ := hcs
      exact ⟨zs, .inr ⟨_, rfl, hl, hm, by simpa using hz, hcell, hwz⟩⟩
  obtain ⟨a1, rfl, rfl, rfl, w1⟩ := open_int Try.underlying3 (hval 1 3 v1 rfl rfl) h1
  obtain ⟨a2, rfl, rfl, rfl, w2⟩ := open_int Try.underlying3 (hval 2 3 v2 rfl rfl) h2
  clear hA0 hval0
  refine (walk a0 len0 cap0 z0 a1 a2 W w0 w1 w2).mono fun e W' ⟨he, bel⟩ => ?_
  subst he
  exact ⟨_, rfl, _, _, _, [], _, [], hW', trodAll_mk1 (shut_bool Try.underlying4 _), (trodAll_cons_mk (Below.trod laidOut (by kernel_rfl) (of_decide_eq_true (by kernel_rfl)) k0 bel lt0) (trodAll_cons_mk (shut_int Try.underlying3 w1) (trodAll_cons_mk (shut_int Try.underlying3 w2) trodAll_mk0))), rfl, bel.frame _, fun h => by cases h⟩

theorem over : Rows.fnExactReadSensorRow.holds Try.pinned (OpenSpec.ofChange Rows.fnExactReadSensorSpec) :=
  OpenClaim.holds_of_wide 3 Try.f3 rfl rfl rfl rfl rfl rfl rfl ⟨rfl, rfl, rfl, rfl, rfl⟩ rfl rfl rfl rfl rfl (by kernel_rfl) Try.func3 (by kernel_rfl)
    (of_decide_eq_true (by kernel_rfl)) (by unfold Func.isWrapper; first | (rw [if_pos (by decide +kernel)]; kernel_rfl) | (rw [if_neg (by decide +kernel)]; exact ⟨rfl, rfl⟩))
    (fun os started H enc _ => lifted os started H enc)

/-- ████ THE STATEMENT ████ -/
theorem proved : Rows.FnExactReadSensorSaid := over
#print axioms proved
end Go.Proofs.Ytndpadnjjbbkkaa.fnExactReadSensor
