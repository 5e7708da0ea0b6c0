/- For every argument FnExactIsClean returns true and leaves its arguments as they were; no condition. -/
import Derived.Test.YtlicadaecfgklaaRows
import Derived.WalkKit
import Derived.ProofKit
import Derived.OpenShut
import Derived.ShutString
import Derived.ChangeOld
import Derived.Below
import Derived.Test.YtlicadaecfgklaaGHub10
import Derived.Test.YtlicadaecfgklaaGHub15
import Derived.Test.YtlicadaecfgklaaGHub16
import Derived.Test.YtlicadaecfgklaaGHub37
import Derived.Test.YtlicadaecfgklaaGHub39
import Derived.Deep.RegionHeld3
namespace Go.Proofs.Ytlicadaecfgklaa.fnExactIsClean
open Go.ChangeShapes Go.WideShapes Go.ChangeAt Go.RowKit
open Go.ChangeMaps (open_string shut_string)
set_option linter.unusedVariables false

theorem own : ownKnob Try.prog.godebug = none := by kernel_rfl
theorem laidOut : laidOutB Try.prog = true := by kernel_rfl

/-- WHAT THE WALK IS TOLD OF A SLICE OF INTEGERS THAT CAME IN: it is nil; or it leads to a row of 'cap' cells, the numbers 'zs' (the first 'len' are its elements, the rest its spare room), each fitting its kind. -/
def IsRow (k : IntKind) (w : World) (a : Option Addr) (len cap : Nat) (zs : List Int) : Prop :=
  (a = none ∧ len = 0 ∧ cap = 0 ∧ zs = []) ∨
  ∃ x, a = some x ∧ len ≤ cap ∧ cap ≤ maxLen ∧ zs.length = cap ∧ (∀ i, i < zs.length → w.cell? (x.add i) = some (.int k (zs.getD i 0))) ∧ ∀ n ∈ zs, (Lit.int k n).wf = true

open Go.Proofs.Ytlicadaecfgklaa.row Go.Proofs.Ytlicadaecfgklaa.val Go.Proofs.Ytlicadaecfgklaa.expr Go.Proofs.Ytlicadaecfgklaa.grow Go.Proofs.Ytlicadaecfgklaa.opn Go.Proofs.Ytlicadaecfgklaa.ctl Go.Proofs.Ytlicadaecfgklaa.wrt Go.Proofs.Ytlicadaecfgklaa.rcv
theorem row_of {w : World} {a0 : Option Addr} {len0 cap0 : Nat} {z0 : List Int} (w0 : IsRow .i64 w a0 len0 cap0 z0) : Row w a0 len0 (z0.take len0) ∧ len0 ≤ maxLen ∧ ∀ x ∈ z0.take len0, -9223372036854775808 ≤ x ∧ x ≤ 9223372036854775807 := by
  rcases w0 with ⟨rfl, rfl, _, rfl⟩ | ⟨x, rfl, hl, hm, hz, hcell, hwf⟩
  · exact ⟨Row.none_ w, by decide, by simp⟩
  · exact ⟨Row.of_ints hl hz hcell, by omega, fun x hx => bounds_i64 (hwf x (List.mem_of_mem_take hx))⟩
theorem low_high {u v : Value} {b : Nat} (hv : ∀ q, v.ownBlock = some q → q < b) (hu : ∀ q, u.ownBlock = some q → b ≤ q) : v.ownBlock = none ∨ v.ownBlock ≠ u.ownBlock := by
  cases hq : v.ownBlock with
  | none => exact .inl rfl
  | some q => right; intro e; have := hv q hq; have := hu q e.symm; omega
theorem high_low {u v : Value} {b : Nat} (hv : ∀ q, v.ownBlock = some q → b ≤ q) (hu : ∀ q, u.ownBlock = some q → q < b) : v.ownBlock = none ∨ v.ownBlock ≠ u.ownBlock := by
  cases hq : v.ownBlock with
  | none => exact .inl rfl
  | some q => right; intro e; have := hv q hq; have := hu q e.symm; omega
theorem own_ge {w : World} {base n sz : Nat} {e : TypeId} {v : Value} {xs : List Value} (h : w.ownsRow base e sz v n xs) {b : Nat} (hb : b ≤ base) : ∀ q, v.ownBlock = some q → b ≤ q := fun q hq => Nat.le_trans hb (h.lt q hq).1
theorem none_okx (ad : Option Addr) (n c : Nat) : (Value.slice ad n c).ownBlock = none ∨ (Value.slice ad n c).ownBlock ≠ none := by cases ad <;> simp [Value.ownBlock]
theorem blk_hi {g b n c : Nat} (h : g < b) : ∀ q, (Value.slice (some ⟨g, 0, none⟩) n c).ownBlock = some q → q < b := fun q hq => by cases hq; exact h
theorem blk_lo {g b n c : Nat} (h : b ≤ g) : ∀ q, (Value.slice (some ⟨g, 0, none⟩) n c).ownBlock = some q → b ≤ q := fun q hq => by cases hq; exact h
theorem own_apart2 {v : Value} {g b : Nat} (hv : ∀ q, v.ownBlock = some q → q < b) (hg : b ≤ g) : v.ownBlock = none ∨ v.ownBlock ≠ some g := by
  cases hq : v.ownBlock with
  | none => exact .inl rfl
  | some q => right; intro e; have := hv q hq; have := Option.some.inj e; omega
theorem own_apart3 {v : Value} {g b : Nat} (hv : ∀ q, v.ownBlock = some q → b ≤ q) (hg : g < b) : v.ownBlock = none ∨ v.ownBlock ≠ some g := by
  cases hq : v.ownBlock with
  | none => exact .inl rfl
  | some q => right; intro e; have := hv q hq; have := Option.some.inj e; omega
theorem box_apart {v : Value} {g b : Nat} (hg : g < b) (hv : ∀ q, v.ownBlock = some q → b ≤ q) : some g ≠ v.ownBlock := fun e => by have := hv g e.symm; omega
theorem box_apart2 {v : Value} {g b : Nat} (hv : ∀ q, v.ownBlock = some q → q < b) (hg : b ≤ g) : some g ≠ v.ownBlock := fun e => by have := hv g e.symm; omega
theorem drew_belowx {w w' : World} (h : Below w.drew.heap.size w.drew w') : Below w.heap.size w w' := (Below.drew (Below.refl _ w)).trans h
set_option maxHeartbeats 8000000 in
set_option maxRecDepth 100000 in
theorem walk (a0 : Option Addr) (len0 cap0 : Nat) (z0 : List Int) (w : World) (w0 : IsRow .i64 w a0 len0 cap0 z0) :
    Calls Try.prog 5 #[.slice a0 len0 cap0] w fun e w' => e = .returned (.bool true) ∧ Below w.heap.size w w' := by
  obtain ⟨hR0, hm0, hwf0⟩ := row_of w0
  clear w0
  unfold maxLen at hm0
  obtain ⟨L0, hL0⟩ : ∃ L, L = z0.take len0 := ⟨_, rfl⟩
  rw [← hL0] at hR0 hwf0
  clear hL0
  obtain ⟨n0, hn0⟩ : ∃ n, n = len0 := ⟨_, rfl⟩
  rw [← hn0] at hR0 hm0 ⊢
  clear hn0
  have HR0 := Lib.hid hR0
  by_cases hbig0 : (1048576 : Int) < n0
  · go_enter Try.func5, Try.ntmps5
    go_wp2
    go_ret
    exact ⟨rfl, (Below.refl _ _)⟩
  have hsm0 : (n0 : Int) ≤ 1048576 := by omega
  obtain ⟨r, hr⟩ : ∃ r : Bool, cleanB L0 = r := ⟨_, rfl⟩
  have HSP := Lib.hid (show ∀ (w' : World) (b0 : Nat), Row w' (some ⟨b0, 0, none⟩) n0 L0 → Calls Try.prog 18 #[.slice (some ⟨b0, 0, none⟩) n0 n0] w' (BelB w' r) from fun w' b0 h0 => by rw [← hr]; exact (spec_isclean w' (some ⟨b0, 0, none⟩) n0 n0 L0 hsm0 h0 _ rfl).mono fun _ _ h => ⟨h.1, h.2 ▸ Below.refl _ _⟩)
  have HIP := Lib.hid (show ∀ (w' : World) (b0 : Nat), Row w' (some ⟨b0, 0, none⟩) n0 L0 → Calls Try.prog 19 #[.slice (some ⟨b0, 0, none⟩) n0 n0] w' (BelB w' r) from fun w' b0 h0 => by rw [← hr]; exact impl_isclean w' (some ⟨b0, 0, none⟩) n0 n0 L0 hsm0 (Nat.le_refl _) h0 (w8_of hwf0) _ rfl)
  clear hR0 hr hwf0 hbig0
  go_enter Try.func5, Try.ntmps5
  have H0 := Lib.hid (Below.refl w.heap.size w)
  go_wp2_with (go_at_call 8; refine (toInts_new _ _ _ _ L0 hsm0 (HR0.out.below H0.out)).mono ?_; rintro e w1 ⟨gw1, rfl, how1, hbw1⟩; refine Hid.out ?_)
  have HZ1 := Lib.hid hbw1.size
  have HLo_tres00 := Lib.hid (own_ge how1 (Nat.le_refl _))
  have HHi_tres00 := Lib.hid (fun q hq => (how1.lt q hq).2)
  have H1 := Lib.hid (And.intro how1 (below_then H0.out hbw1))
  clear how1 hbw1
  refine Lib.hid ?_
  go_wp2_with (go_at_call 18; (with_reducible refine (HSP.out _ _ (Row.of_own H1.out.1)).mono ?_); rintro e w2 ⟨rfl, hbw2⟩; refine Hid.out ?_)
  have HZ2 := Lib.hid hbw2.size
  have H2 := Lib.hid (below_then H1.out.2 hbw2)
  clear hbw2
  refine Lib.hid ?_
  go_wp2_with (go_at_call 8; refine (toInts_new _ _ _ _ L0 hsm0 (HR0.out.below H2.out)).mono ?_; rintro e w3 ⟨gw3, rfl, how3, hbw3⟩; refine Hid.out ?_)
  have HZ3 := Lib.hid hbw3.size
  have HLo_x0 := Lib.hid (own_ge how3 (Nat.le_refl _))
  have HHi_x0 := Lib.hid (fun q hq => (how3.lt q hq).2)
  have H3 := Lib.hid (And.intro how3 (below_then H2.out hbw3))
  clear how3 hbw3
  refine Lib.hid ?_
  go_wp2_with (go_at_call 19; (with_reducible refine (HIP.out _ _ (Row.of_own H3.out.1)).mono ?_); rintro e w4 ⟨rfl, hbw4⟩; refine Hid.out ?_)
  have HZ4 := Lib.hid hbw4.size
  have H4 := Lib.hid (And.intro (H3.out.1.kept (grown_below hbw4 none) (none_okx _ _ _)) (below_then H3.out.2 hbw4))
  clear hbw4
  refine Lib.hid ?_
  go_wp2_with (go_at_call 8; refine (toInts_new _ _ _ _ L0 hsm0 (HR0.out.below H4.out.2)).mono ?_; rintro e w5 ⟨gw5, rfl, how5, hbw5⟩; refine Hid.out ?_)
  have HZ5 := Lib.hid hbw5.size
  have HLo_y0 := Lib.hid (own_ge how5 (Nat.le_refl _))
  have HHi_y0 := Lib.hid (fun q hq => (how5.lt q hq).2)
  have H5 := Lib.hid (And.intro (H4.out.1.kept (grown_below hbw5 none) (none_okx _ _ _)) (And.intro how5 (below_then H4.out.2 hbw5)))
  clear how5 hbw5
  refine Lib.hid ?_
  go_wp2_with (go_at_call 11; refine (eqInts_any _ _ _ _ _ _ L0 hsm0 (Row.of_own H5.out.1) (Row.of_own H5.out.2.1)).mono ?_; rintro e w6 ⟨rfl, hg⟩; refine Hid.out ?_)
  have HZ6 := Lib.hid hg.size
  have H6 := Lib.hid (And.intro (H5.out.1.kept (grown_below (below_grown hg) none) (none_okx _ _ _)) (below_then H5.out.2.2 (below_grown hg)))
  clear hg
  refine Lib.hid ?_
  go_wp2
  go_ret
  exact ⟨rfl, H6.out.2⟩

/-! ### THE ROW's STEP: WRITTEN OUT: LEAVE IT -/
set_option maxRecDepth 100000 in
theorem lifted (os : Os) (started : os.Started) (H : Type) (enc : TypeId × Value → H) :
    ReturnsInHanded {} Try.checked os 5 .any (Rows.fnExactIsCleanSpec.pre6 enc Try.prog Try.f5 Rows.fnExactIsCleanRow.domain false) (Rows.fnExactIsCleanSpec.post enc Try.prog Try.f5 false true false false) := by
  refine returnsInHanded_of_change (C := Try.checked) own started (by kernel_rfl) Try.func5
    (ChangeSpec.witness6 (enc := enc) (C := Try.checked) false ⟨#[], #[.slice none 0 0], []⟩ 8 (by kernel_rfl) (by kernel_rfl) (by kernel_rfl) (by kernel_rfl)) ?_
  intro W base args ds gs before hval0 hW hcnd _
  have hval : ∀ (j : Nat) t v, Try.f5.params[j]? = some t → args[j]? = some v → Value.okWide Try.prog W .any base t v := hval0
  have hW' := hW
  obtain ⟨p, q, hA0, hV, rfl, hfz, hnd⟩ := hW
  have hA : DataW.TrodAll enc Try.prog W 0 (fun _ => true) true Try.f5.params.toList args.toList ds p := hA0
  rw [Try.params5] at hA hval
  obtain ⟨v0, vs0, d0, ds0, p0, q0, hargs, rfl, rfl, h0, r0⟩ := trodAll_cons hA
  obtain ⟨rfl, rfl, rfl⟩ := trodAll_nil r0
  obtain rfl : args = #[v0] := by cases args; simp_all
  obtain ⟨rfl, rfl⟩ := trodVars_none hV
  obtain ⟨a0, len0, cap0, rfl⟩ := okWide_slice Try.underlying22 (hval 0 22 v0 rfl rfl)
  have k0 := h0
  have lt0 : ∀ x ∈ p0, x.block < W.heap.size := by obtain ⟨m, hm⟩ := k0; exact DataW.trod_lt m _ _ _ hm
  obtain ⟨z0, w0⟩ : ∃ zs, IsRow .i64 W a0 len0 cap0 zs := by
    obtain ⟨fuel, hf⟩ := h0
    rcases open_ints Try.underlying22 Try.underlying3 (by kernel_rfl) hf with ⟨hcs, _⟩ | ⟨x, l, c, zs, hcs, _, hl, hm, hz, _, hcell, hwz⟩
    · simp [Value.cells] at hcs
      obtain ⟨rfl, rfl, rfl⟩ := hcs
      exact ⟨[], .inl ⟨rfl, rfl, rfl, rfl⟩⟩
    · simp [Value.cells] at hcs
      obtain ⟨rfl, rfl, rfl⟩ := hcs
      exact ⟨zs, .inr ⟨_, rfl, hl, hm, by simpa using hz, hcell, hwz⟩⟩
  clear hA0 hval0
  refine (walk a0 len0 cap0 z0 W w0).mono fun e W' ⟨he, bel⟩ => ?_
  subst he
  exact ⟨_, rfl, _, _, _, [], _, [], hW', trodAll_mk1 (shut_bool Try.underlying4 _), (trodAll_cons_mk (Below.trod laidOut (by kernel_rfl) (of_decide_eq_true (by kernel_rfl)) k0 bel lt0) trodAll_mk0), rfl, bel.frame _, fun h => by cases h⟩

theorem over : Rows.fnExactIsCleanRow.holds Try.pinned (OpenSpec.ofChange Rows.fnExactIsCleanSpec) :=
  OpenClaim.holds_of_wide 5 Try.f5 rfl rfl rfl rfl rfl rfl rfl ⟨rfl, rfl, rfl, rfl, rfl⟩ rfl rfl rfl rfl rfl (by kernel_rfl) Try.func5 (by kernel_rfl)
    (of_decide_eq_true (by kernel_rfl)) (by unfold Func.isWrapper; first | (rw [if_pos (by decide +kernel)]; kernel_rfl) | (rw [if_neg (by decide +kernel)]; exact ⟨rfl, rfl⟩))
    (fun os started H enc _ => lifted os started H enc)

/-- ████ THE STATEMENT ████ -/
theorem proved : Rows.FnExactIsCleanSaid := over
#print axioms proved
end Go.Proofs.Ytlicadaecfgklaa.fnExactIsClean
