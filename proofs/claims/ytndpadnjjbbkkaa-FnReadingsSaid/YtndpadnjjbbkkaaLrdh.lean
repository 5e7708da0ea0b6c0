/- For every input the law FnReadings returns true and leaves its argument as it was; no condition. -/
import Derived.Test.YtndpadnjjbbkkaaRows
import Derived.WalkKit
import Derived.ProofKit
import Derived.OpenShut
import Derived.ShutString
import Derived.ChangeOld
import Derived.Below
import Derived.Test.YtndpadnjjbbkkaaGHub18
import Derived.Test.YtndpadnjjbbkkaaGHub35
import Derived.Test.YtndpadnjjbbkkaaGHub34
import Derived.Test.YtndpadnjjbbkkaaGHub37
import Derived.Test.YtndpadnjjbbkkaaGHub39
import Derived.Test.YtndpadnjjbbkkaaGHub42
import Derived.Test.YtndpadnjjbbkkaaGHub47
import Derived.Test.YtndpadnjjbbkkaaGHub10
import Derived.Test.YtndpadnjjbbkkaaGHub19
import Derived.Test.YtndpadnjjbbkkaaGHub29
import Derived.Test.YtndpadnjjbbkkaaGHub48
import Derived.Deep.RegionHeld3
namespace Go.Proofs.Ytndpadnjjbbkkaa.fnReadings
open Go.ChangeShapes Go.WideShapes Go.ChangeAt Go.RowKit
open Go.ChangeMaps (open_string shut_string)
set_option linter.unusedVariables false

theorem own : ownKnob Try.prog.godebug = none := by kernel_rfl
theorem laidOut : laidOutB Try.prog = true := by kernel_rfl

/-- WHAT THE WALK IS TOLD OF A SLICE OF INTEGERS THAT CAME IN: it is nil; or it leads to a row of 'cap' cells, the numbers 'zs' (the first 'len' are its elements, the rest its spare room), each fitting its kind. -/
def IsRow (k : IntKind) (w : World) (a : Option Addr) (len cap : Nat) (zs : List Int) : Prop :=
  (a = none ∧ len = 0 ∧ cap = 0 ∧ zs = []) ∨
  ∃ x, a = some x ∧ len ≤ cap ∧ cap ≤ maxLen ∧ zs.length = cap ∧ (∀ i, i < zs.length → w.cell? (x.add i) = some (.int k (zs.getD i 0))) ∧ ∀ n ∈ zs, (Lit.int k n).wf = true

open Go.Proofs.Ytndpadnjjbbkkaa.row Go.Proofs.Ytndpadnjjbbkkaa.val Go.Proofs.Ytndpadnjjbbkkaa.expr Go.Proofs.Ytndpadnjjbbkkaa.cur Go.Proofs.Ytndpadnjjbbkkaa.exe
theorem rs_is {R : List Int} {x q n : Int} {k : Nat} (hx : R[k]? = some x) (hr : -200 ≤ x ∧ x < 600) (hq : 0 ≤ q ∧ q ≤ 3) (hn : 0 ≤ n) (hk : n % R.length = k) : readS R q n = x + 100 * q := by
  have h0 : R.length ≠ 0 := by have := (List.getElem?_eq_some_iff.1 hx).1; omega
  rw [readS_ok h0 hq.1 hq.2 hn, hk, List.getD_eq_getElem?_getD, show ((k : Int)).toNat = k by omega, hx]
  show sat (sat x + sat (100 * q)) = _
  rw [sat_in (n := x) (by omega) (by omega), sat_in (n := 100 * q) (by omega) (by omega), sat_in (by omega) (by omega)]
set_option maxHeartbeats 4000000 in
set_option maxRecDepth 100000 in
theorem walk (a0 : Option Addr) (len0 cap0 : Nat) (z0 : List Int) (w : World) (w0 : IsRow .u8 w a0 len0 cap0 z0) :
    Calls Try.prog 5 #[.slice a0 len0 cap0] w fun e w' => e = .returned (.bool true) ∧ Below w.heap.size w w' := by
  have HB : Hid (∀ i : Nat, i < len0 → ∃ (b off : Nat) (v : Int), a0 = some ⟨b, off, none⟩ ∧ w.cell? ⟨b, off + i, none⟩ = some (.int .u8 v)) := by
    intro i hi
    rcases w0 with ⟨_, h0, _⟩ | ⟨x, rfl, hl, _, hz, hcell, _⟩
    · omega
    · obtain ⟨b, off, rfl, hc⟩ := ints_at hcell (by omega)
      exact ⟨b, off, _, rfl, hc i (by omega)⟩
  have HB2 : Hid (∀ w1 : World, Below w.heap.size w w1 → ∀ i : Nat, i < len0 → ∃ (b off : Nat) (v : Int), a0 = some ⟨b, off, none⟩ ∧ w1.cell? ⟨b, off + i, none⟩ = some (.int .u8 v)) := by
    intro w1 hb1 i hi
    obtain ⟨b, off, v, ha, hv⟩ := HB.out i hi
    exact ⟨b, off, v, ha, (hb1.cell (World.block_lt_of_cell? w _ hv)).trans hv⟩
  clear w0
  by_cases hbig : (1048576 : Int) < len0
  · go_enter Try.func5, Try.ntmps5
    go_wp2_with (go_at_call 13; refine (big_yes _ _ _ _ hbig).mono ?_; rintro e w1 ⟨rfl, rfl⟩)
    go_ret
    exact ⟨rfl, Below.refl _ _⟩
  · have hsm : (len0 : Int) ≤ 1048576 := by omega
    clear hbig
    go_enter Try.func5, Try.ntmps5
    go_wp2_with (first
      | (go_at_call 13; refine (big_no _ _ _ _ hsm).mono ?_; rintro e w1 ⟨rfl, rfl⟩)
      | (go_at_call 16; refine (readings_any _ _ _ _ hsm HB.out).mono ?_; rintro e w1 ⟨v1, R, rfl, hR1, hR9, HRG, hown1, hb1⟩; refine Hid.out ?_))
    obtain ⟨g, c, rfl, hbg, hlg, _⟩ := own_atI hown1 (k := 0) (by omega)
    have H1 := Lib.hid (And.intro (Row.of_own hown1) hb1)
    clear hown1 hb1
    refine Lib.hid ?_
    go_wp2_with (go_at_call 17; refine (places_any _ _ _ _ hsm (HB2.out _ H1.out.2)).mono ?_; rintro e w2 ⟨v2, Z, rfl, hl, HZ, hown2, hb2⟩; refine Hid.out ?_)
    obtain ⟨g2, c2, rfl, hbg2, hlg2, n, hn, hcn⟩ := own_atI hown2 (k := 0) (by omega)
    have hn' := HZ.out n (List.mem_of_getElem? hn)
    have H2 := Lib.hid (And.intro (H1.out.1.below hb2) (below_then H1.out.2 hb2))
    obtain ⟨N, hN⟩ : ∃ N, R.length = N := ⟨_, rfl⟩
    rw [hN] at hR1 hR9 H2 H1 ⊢
    have hr0 : 0 ≤ n % N := Int.emod_nonneg n (by omega)
    have hr1 : n % N < N := Int.emod_lt_of_pos n (by omega)
    obtain ⟨k, hk⟩ : ∃ k : Nat, n % N = k := ⟨(n % N).toNat, by omega⟩
    obtain ⟨gb, off, x, hge, hlb, hx, hcx⟩ := H2.out.1.2 k (by omega)
    cases hge
    rw [Nat.zero_add] at hcx
    have hxr := HRG.out x (List.mem_of_getElem? hx)
    have hk2 : (n + N) % N = k := by rw [Int.add_emod_right]; exact hk
    have HN := Lib.hid (show (N : Int) ≤ 1048576 by omega)
    have C1 := Lib.hid (show ∀ w', Row w' (some ⟨g, 0, none⟩) N R → Calls Try.prog 11 #[.slice (some ⟨g, 0, none⟩) N c, .int .i64 0, .int .i64 n] w' (BelI w' x) from fun w' h => by
      have h9 := impl_readsensor w' _ N c R HN.out h 0 n
      rw [rs_is hx hxr (by omega) (by omega) (by rw [hN]; exact hk), Int.mul_zero, Int.add_zero] at h9; exact h9)
    have C2 := Lib.hid (show ∀ w', Row w' (some ⟨g, 0, none⟩) N R → Calls Try.prog 11 #[.slice (some ⟨g, 0, none⟩) N c, .int .i64 0, .int .i64 (n + N)] w' (BelI w' x) from fun w' h => by
      have h9 := impl_readsensor w' _ N c R HN.out h 0 (n + N)
      rw [rs_is hx hxr (by omega) (by omega) (by rw [hN]; exact hk2), Int.mul_zero, Int.add_zero] at h9; exact h9)
    have C3 := Lib.hid (show ∀ w', Row w' (some ⟨g, 0, none⟩) N R → Calls Try.prog 11 #[.slice (some ⟨g, 0, none⟩) N c, .int .i64 3, .int .i64 n] w' (BelI w' (x + 300)) from fun w' h => by
      have h9 := impl_readsensor w' _ N c R HN.out h 3 n
      rw [rs_is hx hxr (by omega) (by omega) (by rw [hN]; exact hk), show (100 : Int) * 3 = 300 by decide] at h9; exact h9)
    have ht : n.tmod N = (k : Int) := by rw [Int.tmod_eq_emod_of_nonneg (by omega)]; exact hk
    have hk0 : (0 : Int) ≤ k := by omega
    have hkN : (k : Int) < N := by omega
    have hNp : ¬ (N : Int) = 0 := by omega
    have hlg3 : g < w2.heap.size := hlb
    clear hown2 hb2 hx hk hk2 hN hn hr0 hr1 HB HB2 H1
    refine Lib.hid ?_
    go_wp2_with (go_at_call 11; (with_reducible refine (C1.out _ H2.out.1).mono ?_); rintro e w3 ⟨rfl, hb3⟩; refine Hid.out ?_)
    have H3 := Lib.hid (And.intro (H2.out.1.below hb3) (below_then H2.out.2 hb3))
    have hcx3 : w3.cell? ⟨g, k, none⟩ = some (.int .i64 x) := (hb3.cell (p := ⟨g, k, none⟩) hlg3).trans hcx
    have hlg4 : g < w3.heap.size := Nat.lt_of_lt_of_le hlg3 hb3.size
    clear hb3 hcx hcn
    refine Lib.hid ?_
    go_wp2_with (go_at_call 11; (with_reducible refine (C2.out _ H3.out.1).mono ?_); rintro e w4 ⟨rfl, hb4⟩; refine Hid.out ?_)
    have H4 := Lib.hid (And.intro (H3.out.1.below hb4) (below_then H3.out.2 hb4))
    have hcx4 : w4.cell? ⟨g, k, none⟩ = some (.int .i64 x) := (hb4.cell (p := ⟨g, k, none⟩) hlg4).trans hcx3
    have hlg5 : g < w4.heap.size := Nat.lt_of_lt_of_le hlg4 hb4.size
    clear hb4 hcx3
    refine Lib.hid ?_
    go_wp2_with (go_at_call 11; (with_reducible refine (C3.out _ H4.out.1).mono ?_); rintro e w5 ⟨rfl, hb5⟩; refine Hid.out ?_)
    have HB5 := Lib.hid (below_then H4.out.2 hb5)
    have hcx5 : w5.cell? ⟨g, k, none⟩ = some (.int .i64 x) := (hb5.cell (p := ⟨g, k, none⟩) hlg5).trans hcx4
    clear hb5 hcx4
    refine Lib.hid ?_
    go_wp2
    go_ret
    exact ⟨rfl, HB5.out⟩

/-! ### THE ROW's STEP: WRITTEN OUT: LEAVE IT -/
set_option maxRecDepth 100000 in
theorem lifted (os : Os) (started : os.Started) (H : Type) (enc : TypeId × Value → H) :
    ReturnsInHanded {} Try.checked os 5 .any (Rows.fnReadingsSpec.pre6 enc Try.prog Try.f5 Rows.fnReadingsRow.domain false) (Rows.fnReadingsSpec.post enc Try.prog Try.f5 false true false false) := by
  refine returnsInHanded_of_change (C := Try.checked) own started (by kernel_rfl) Try.func5
    (ChangeSpec.witness6 (enc := enc) (C := Try.checked) false ⟨#[], #[.slice none 0 0], []⟩ 8 (by kernel_rfl) (by kernel_rfl) (by kernel_rfl) (by kernel_rfl)) ?_
  intro W base args ds gs before hval0 hW hcnd _
  have hval : ∀ (j : Nat) t v, Try.f5.params[j]? = some t → args[j]? = some v → Value.okWide Try.prog W .any base t v := hval0
  have hW' := hW
  obtain ⟨p, q, hA0, hV, rfl, hfz, hnd⟩ := hW
  have hA : DataW.TrodAll enc Try.prog W 0 (fun _ => true) true Try.f5.params.toList args.toList ds p := hA0
  rw [Try.params5] at hA hval
  obtain ⟨v0, vs0, d0, ds0, p0, q0, hargs, rfl, rfl, h0, r0⟩ := trodAll_cons hA
  obtain ⟨rfl, rfl, rfl⟩ := trodAll_nil r0
  obtain rfl : args = #[v0] := by cases args; simp_all
  obtain ⟨rfl, rfl⟩ := trodVars_none hV
  obtain ⟨a0, len0, cap0, rfl⟩ := okWide_slice Try.underlying27 (hval 0 27 v0 rfl rfl)
  have k0 := h0
  have lt0 : ∀ x ∈ p0, x.block < W.heap.size := by obtain ⟨m, hm⟩ := k0; exact DataW.trod_lt m _ _ _ hm
  obtain ⟨z0, w0⟩ : ∃ zs, IsRow .u8 W a0 len0 cap0 zs := by
    obtain ⟨fuel, hf⟩ := h0
    rcases open_ints Try.underlying27 Try.underlying5 (by kernel_rfl) hf with ⟨hcs, _⟩ | ⟨x, l, c, zs, hcs, _, hl, hm, hz, _, hcell, hwz⟩
    · simp [Value.cells] at hcs
      obtain ⟨rfl, rfl, rfl⟩ := hcs
      exact ⟨[], .inl ⟨rfl, rfl, rfl, rfl⟩⟩
    · simp [Value.cells] at hcs
      obtain ⟨rfl, rfl, rfl⟩ := hcs
      exact ⟨zs, .inr ⟨_, rfl, hl, hm, by simpa using hz, hcell, hwz⟩⟩
  clear hA0 hval0
  refine (walk a0 len0 cap0 z0 W w0).mono fun e W' ⟨he, bel⟩ => ?_
  subst he
  exact ⟨_, rfl, _, _, _, [], _, [], hW', trodAll_mk1 (shut_bool Try.underlying4 _), (trodAll_cons_mk (Below.trod laidOut (by kernel_rfl) (of_decide_eq_true (by kernel_rfl)) k0 bel lt0) trodAll_mk0), rfl, bel.frame _, fun h => by cases h⟩

theorem over : Rows.fnReadingsRow.holds Try.pinned (OpenSpec.ofChange Rows.fnReadingsSpec) :=
  OpenClaim.holds_of_wide 5 Try.f5 rfl rfl rfl rfl rfl rfl rfl ⟨rfl, rfl, rfl, rfl, rfl⟩ rfl rfl rfl rfl rfl (by kernel_rfl) Try.func5 (by kernel_rfl)
    (of_decide_eq_true (by kernel_rfl)) (by unfold Func.isWrapper; first | (rw [if_pos (by decide +kernel)]; kernel_rfl) | (rw [if_neg (by decide +kernel)]; exact ⟨rfl, rfl⟩))
    (fun os started H enc _ => lifted os started H enc)

/-- ████ THE STATEMENT ████ -/
theorem proved : Rows.FnReadingsSaid := over
#print axioms proved
end Go.Proofs.Ytndpadnjjbbkkaa.fnReadings
