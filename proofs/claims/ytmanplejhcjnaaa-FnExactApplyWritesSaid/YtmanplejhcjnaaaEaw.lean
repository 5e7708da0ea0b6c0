/- For every argument FnExactApplyWrites returns true and leaves its arguments as they were; no condition. -/
import Derived.Test.YtmanplejhcjnaaaRows
import Derived.WalkKit
import Derived.ProofKit
import Derived.OpenShut
import Derived.ShutString
import Derived.ChangeOld
import Derived.Below
import Derived.Test.YtmanplejhcjnaaaWtJ
import Derived.Test.YtmanplejhcjnaaaWtN
import Derived.Deep.RegionHeld3
namespace Go.Proofs.Ytmanplejhcjnaaa.fnExactApplyWrites
open Go.ChangeShapes Go.WideShapes Go.ChangeAt Go.RowKit
open Go.ChangeMaps (open_string shut_string)
set_option linter.unusedVariables false

theorem own : ownKnob Try.prog.godebug = none := by kernel_rfl
theorem laidOut : laidOutB Try.prog = true := by kernel_rfl

/-- A row of numbers that came in: nil, or 'cap' cells that hold 'zs', of which the first 'len' are its elements. -/
def IsRow (k : IntKind) (w : World) (a : Option Addr) (len cap : Nat) (zs : List Int) : Prop :=
  (a = none ∧ len = 0 ∧ cap = 0 ∧ zs = []) ∨
  ∃ x, a = some x ∧ len ≤ cap ∧ cap ≤ maxLen ∧ zs.length = cap ∧ (∀ i, i < zs.length → w.cell? (x.add i) = some (.int k (zs.getD i 0))) ∧ ∀ n ∈ zs, (Lit.int k n).wf = true

open Go.Proofs.Ytmanplejhcjnaaa.row Go.Proofs.Ytmanplejhcjnaaa.val Go.Proofs.Ytmanplejhcjnaaa.expr Go.Proofs.Ytmanplejhcjnaaa.grow Go.Proofs.Ytmanplejhcjnaaa.opn Go.Proofs.Ytmanplejhcjnaaa.wrt
theorem row_of {w : World} {a0 : Option Addr} {len0 cap0 : Nat} {z0 : List Int} (w0 : IsRow .i64 w a0 len0 cap0 z0) : Row w a0 len0 (z0.take len0) ∧ len0 ≤ maxLen ∧ ∀ x ∈ z0.take len0, -9223372036854775808 ≤ x ∧ x ≤ 9223372036854775807 := by
  rcases w0 with ⟨rfl, rfl, _, rfl⟩ | ⟨x, rfl, hl, hm, hz, hcell, hwf⟩
  · exact ⟨Row.none_ w, by decide, by simp⟩
  · exact ⟨Row.of_ints hl hz hcell, by omega, fun x hx => bounds_i64 (hwf x (List.mem_of_mem_take hx))⟩
theorem low_high {u v : Value} {b : Nat} (hv : ∀ q, v.ownBlock = some q → q < b) (hu : ∀ q, u.ownBlock = some q → b ≤ q) : v.ownBlock = none ∨ v.ownBlock ≠ u.ownBlock := by
  cases hq : v.ownBlock with
  | none => exact .inl rfl
  | some q => right; intro e; have := hv q hq; have := hu q e.symm; omega
theorem high_low {u v : Value} {b : Nat} (hv : ∀ q, v.ownBlock = some q → b ≤ q) (hu : ∀ q, u.ownBlock = some q → q < b) : v.ownBlock = none ∨ v.ownBlock ≠ u.ownBlock := by
  cases hq : v.ownBlock with
  | none => exact .inl rfl
  | some q => right; intro e; have := hv q hq; have := hu q e.symm; omega
theorem own_ge {w : World} {base n sz : Nat} {e : TypeId} {v : Value} {xs : List Value} (h : w.ownsRow base e sz v n xs) {b : Nat} (hb : b ≤ base) : ∀ q, v.ownBlock = some q → b ≤ q := fun q hq => Nat.le_trans hb (h.lt q hq).1
theorem none_okx (ad : Option Addr) (n c : Nat) : (Value.slice ad n c).ownBlock = none ∨ (Value.slice ad n c).ownBlock ≠ none := by cases ad <;> simp [Value.ownBlock]
theorem blk_hi {g b n c : Nat} (h : g < b) : ∀ q, (Value.slice (some ⟨g, 0, none⟩) n c).ownBlock = some q → q < b := fun q hq => by cases hq; exact h
theorem blk_lo {g b n c : Nat} (h : b ≤ g) : ∀ q, (Value.slice (some ⟨g, 0, none⟩) n c).ownBlock = some q → b ≤ q := fun q hq => by cases hq; exact h
theorem own_apart2 {v : Value} {g b : Nat} (hv : ∀ q, v.ownBlock = some q → q < b) (hg : b ≤ g) : v.ownBlock = none ∨ v.ownBlock ≠ some g := by
  cases hq : v.ownBlock with
  | none => exact .inl rfl
  | some q => right; intro e; have := hv q hq; have := Option.some.inj e; omega
theorem own_apart3 {v : Value} {g b : Nat} (hv : ∀ q, v.ownBlock = some q → b ≤ q) (hg : g < b) : v.ownBlock = none ∨ v.ownBlock ≠ some g := by
  cases hq : v.ownBlock with
  | none => exact .inl rfl
  | some q => right; intro e; have := hv q hq; have := Option.some.inj e; omega
theorem box_apart {v : Value} {g b : Nat} (hg : g < b) (hv : ∀ q, v.ownBlock = some q → b ≤ q) : some g ≠ v.ownBlock := fun e => by have := hv g e.symm; omega
theorem box_apart2 {v : Value} {g b : Nat} (hv : ∀ q, v.ownBlock = some q → q < b) (hg : b ≤ g) : some g ≠ v.ownBlock := fun e => by have := hv g e.symm; omega
theorem drew_belowx {w w' : World} (h : Below w.drew.heap.size w.drew w') : Below w.heap.size w w' := (Below.drew (Below.refl _ w)).trans h
set_option maxHeartbeats 8000000 in
set_option maxRecDepth 100000 in
theorem walk (a0 : Option Addr) (len0 cap0 : Nat) (z0 : List Int) (a1 : Value) (a2 : Int) (w : World) (w0 : IsRow .i64 w a0 len0 cap0 z0) (w1 : IsWrites w a1) (w2 : (Lit.int .i64 a2).wf = true) :
    Calls Try.prog 6 #[.slice a0 len0 cap0, a1, .int .i64 a2] w fun e w' => e = .returned (.bool true) ∧ Below w.heap.size w w' := by
  obtain ⟨hR0, hm0, hwf0⟩ := row_of w0
  clear w0
  unfold maxLen at hm0
  obtain ⟨L0, hL0⟩ : ∃ L, L = z0.take len0 := ⟨_, rfl⟩
  rw [← hL0] at hR0 hwf0
  clear hL0
  obtain ⟨n0, hn0⟩ : ∃ n, n = len0 := ⟨_, rfl⟩
  rw [← hn0] at hR0 hm0 ⊢
  clear hn0
  have HR0 := Lib.hid hR0
  obtain ⟨d1, n1, cap1, L1, rfl, hm1, hR1, hwf1⟩ := w1
  unfold maxLen at hm1
  have HR1 := Lib.hid hR1
  have hwf2 := bounds_i64 w2
  by_cases hbig0 : (1048576 : Int) < n0
  · go_enter Try.func6, Try.ntmps6
    go_wp2
    go_ret
    exact ⟨rfl, (Below.refl _ _)⟩
  have hsm0 : (n0 : Int) ≤ 1048576 := by omega
  by_cases hbig1 : (1048576 : Int) - n1 < 0
  · have hsz : (if (1048576 : Int) - n1 < 0 then (-1 : Int) else 1048576 - n1) = -1 := if_pos hbig1
    have HSZ := Lib.hid (show ∀ w' : World, Calls Try.prog 24 #[.slice d1 n1 cap1, .int .i64 1048576] w' (Ret w' (-1)) from fun w' => by have h := szWrites_any d1 n1 cap1 1048576 (by omega) (by omega) (by omega) w'; rw [hsz] at h; exact h)
    clear hsz hbig1
    go_enter Try.func6, Try.ntmps6
    go_wp2_with (go_at_call 24; (with_reducible refine (HSZ.out _).mono ?_); rintro e wz ⟨rfl, rfl⟩)
    go_ret
    exact ⟨rfl, (Below.refl _ _)⟩
  have hsm1 : (n1 : Int) ≤ 1048576 := by omega
  have HSZ := Lib.hid (show ∀ w' : World, Calls Try.prog 24 #[.slice d1 n1 cap1, .int .i64 1048576] w' (Ret w' (1048576 - n1)) from fun w' => by have h := szWrites_any d1 n1 cap1 1048576 (by omega) (by omega) (by omega) w'; rw [if_neg hbig1] at h; exact h)
  have hszn : ¬ (1048576 : Int) - n1 < 0 := hbig1
  obtain ⟨M, hr⟩ : ∃ M, appW L0 L1 a2 = M := ⟨_, rfl⟩
  have hMl : (M.length : Int) ≤ 1048576 := by rw [← hr]; exact (by have := appW_len L0 L1 a2; have := hR0.1; omega)
  have HSP := Lib.hid (show ∀ (w' : World) (b0 : Nat) (b1 : Nat), Row w' (some ⟨b0, 0, none⟩) n0 L0 → WriteRow w' (some ⟨b1, 0, none⟩) n1 L1 → Calls Try.prog 25 #[.slice (some ⟨b0, 0, none⟩) n0 n0, .slice (some ⟨b1, 0, none⟩) n1 n1, .int .i64 a2] w' (NewInts w' M) from fun w' b0 b1 h0 h1 => by rw [← hr]; exact spec_apply w' b0 0 n0 n0 L0 _ n1 n1 L1 a2 hsm0 hsm1 h0 h1)
  have HIP := Lib.hid (show ∀ (w' : World) (b0 : Nat) (b1 : Nat), Row w' (some ⟨b0, 0, none⟩) n0 L0 → WriteRow w' (some ⟨b1, 0, none⟩) n1 L1 → Calls Try.prog 12 #[.slice (some ⟨b0, 0, none⟩) n0 n0, .slice (some ⟨b1, 0, none⟩) n1 n1, .int .i64 a2] w' (NewInts w' M) from fun w' b0 b1 h0 h1 => by rw [← hr]; exact (impl_apply w' _ n0 n0 L0 _ n1 n1 L1 a2 hsm0 hsm1 (Nat.le_refl _) (fun x hx => by cases hx; rfl) h0 h1).mono fun _ _ h => h.ints (by rw [appW_len]; exact h0.1) hsm0)
  clear hR0 hR1 hr hwf0 hwf1 hwf2 hbig0 hbig1
  go_enter Try.func6, Try.ntmps6
  go_wp2_with (go_at_call 24; (with_reducible refine (HSZ.out _).mono ?_); rintro e wz ⟨rfl, rfl⟩; refine Hid.out ?_)
  skip
  refine Lib.hid ?_
  have H0 := Lib.hid (Below.refl w.heap.size w)
  have HLen1 := Lib.hid HR1.out.1
  have HSzC1 := Lib.hid (show n1 * 2 ≤ (writesC L1).toArray.size by rw [List.size_toArray, writesC_len, HLen1.out]; exact Nat.le_refl _)
  go_wp2_with (go_at_call 19; refine (toInts_new _ _ _ _ L0 hsm0 (HR0.out.below H0.out)).mono ?_; rintro e w1 ⟨gw1, rfl, how1, hbw1⟩; refine Hid.out ?_)
  have HZ1 := Lib.hid hbw1.size
  have HLo_tres00 := Lib.hid (own_ge how1 (Nat.le_refl _))
  have HHi_tres00 := Lib.hid (fun q hq => (how1.lt q hq).2)
  have H1 := Lib.hid (And.intro how1 (below_then H0.out hbw1))
  clear how1 hbw1
  refine Lib.hid ?_
  go_wp2_with (go_at_call 26; refine (toWrites_new _ _ _ _ L1 hsm1 (HR1.out.below H1.out.2)).mono ?_; rintro e w2 ⟨gw2, rfl, hgw2, how2, hbw2⟩; refine Hid.out ?_)
  have HZ2 := Lib.hid hbw2.size
  have HLo_tres01 := Lib.hid (blk_lo (n := n1) (c := n1) hgw2)
  have HHi_tres01 := Lib.hid (blk_hi (n := n1) (c := n1) how2.lt)
  have H2 := Lib.hid (And.intro (H1.out.1.kept (grown_below hbw2 none) (none_okx _ _ _)) (And.intro how2 (below_then H1.out.2 hbw2)))
  clear how2 hbw2 hgw2
  refine Lib.hid ?_
  go_wp2_with (go_at_call 25; (with_reducible refine (HSP.out _ _ _ (Row.of_own H2.out.1) (GRow.of_box writeC_len H2.out.2.1 HLen1.out)).mono ?_); rintro e w3 ⟨adw3, mw3, cw3, rfl, how3, hbw3⟩; refine Hid.out ?_)
  have HZ3 := Lib.hid hbw3.size
  have HLo_res0 := Lib.hid (own_ge how3 (Nat.le_refl _))
  have HHi_res0 := Lib.hid (fun q hq => (how3.lt q hq).2)
  have hle_res0 : (mw3 : Int) ≤ 1048576 := by have := own_len how3; omega
  have H3 := Lib.hid (And.intro how3 (below_then H2.out.2.2 hbw3))
  clear how3 hbw3
  refine Lib.hid ?_
  go_wp2_with (go_at_call 19; refine (toInts_new _ _ _ _ L0 hsm0 (HR0.out.below H3.out.2)).mono ?_; rintro e w4 ⟨gw4, rfl, how4, hbw4⟩; refine Hid.out ?_)
  have HZ4 := Lib.hid hbw4.size
  have HLo_x0 := Lib.hid (own_ge how4 (Nat.le_refl _))
  have HHi_x0 := Lib.hid (fun q hq => (how4.lt q hq).2)
  have H4 := Lib.hid (And.intro (H3.out.1.kept (grown_below hbw4 none) (none_okx _ _ _)) (And.intro how4 (below_then H3.out.2 hbw4)))
  clear how4 hbw4
  refine Lib.hid ?_
  go_wp2_with (go_at_call 26; refine (toWrites_new _ _ _ _ L1 hsm1 (HR1.out.below H4.out.2.2)).mono ?_; rintro e w5 ⟨gw5, rfl, hgw5, how5, hbw5⟩; refine Hid.out ?_)
  have HZ5 := Lib.hid hbw5.size
  have HLo_x1 := Lib.hid (blk_lo (n := n1) (c := n1) hgw5)
  have HHi_x1 := Lib.hid (blk_hi (n := n1) (c := n1) how5.lt)
  have H5 := Lib.hid (And.intro (H4.out.1.kept (grown_below hbw5 none) (none_okx _ _ _)) (And.intro (H4.out.2.1.kept (grown_below hbw5 none) (none_okx _ _ _)) (And.intro how5 (below_then H4.out.2.2 hbw5))))
  clear how5 hbw5 hgw5
  refine Lib.hid ?_
  go_wp2_with (go_at_call 12; (with_reducible refine (HIP.out _ _ _ (Row.of_own H5.out.2.1) (GRow.of_box writeC_len H5.out.2.2.1 HLen1.out)).mono ?_); rintro e w6 ⟨adw6, mw6, cw6, rfl, how6, hbw6⟩; refine Hid.out ?_)
  have HZ6 := Lib.hid hbw6.size
  have HLo_res1 := Lib.hid (own_ge how6 (Nat.le_refl _))
  have HHi_res1 := Lib.hid (fun q hq => (how6.lt q hq).2)
  have hle_res1 : (mw6 : Int) ≤ 1048576 := by have := own_len how6; omega
  have H6 := Lib.hid (And.intro (H5.out.1.kept (grown_below hbw6 none) (none_okx _ _ _)) (And.intro (H5.out.2.1.kept (grown_below hbw6 none) (none_okx _ _ _)) (And.intro (H5.out.2.2.1.below hbw6) (And.intro how6 (below_then H5.out.2.2.2 hbw6)))))
  clear how6 hbw6
  refine Lib.hid ?_
  obtain rfl : mw6 = mw3 := by have h1 := own_len H6.out.2.2.2.1; have h2 := own_len H6.out.1; omega
  go_wp2_with (go_at_call 21; refine (eqInts_any _ _ _ _ _ _ M (by omega) (Row.of_own H6.out.2.2.2.1) (Row.of_own H6.out.1)).mono ?_; rintro e w7 ⟨rfl, hg⟩; refine Hid.out ?_)
  have HZ7 := Lib.hid hg.size
  have H7 := Lib.hid (And.intro (H6.out.1.kept (grown_below (below_grown hg) none) (none_okx _ _ _)) (And.intro (H6.out.2.1.kept (grown_below (below_grown hg) none) (none_okx _ _ _)) (And.intro (H6.out.2.2.1.below (below_grown hg)) (And.intro (H6.out.2.2.2.1.kept (grown_below (below_grown hg) none) (none_okx _ _ _)) (below_then H6.out.2.2.2.2 (below_grown hg))))))
  clear hg
  refine Lib.hid ?_
  go_wp2_with (go_at_call 19; refine (toInts_new _ _ _ _ L0 hsm0 (HR0.out.below H7.out.2.2.2.2)).mono ?_; rintro e w8 ⟨gw8, rfl, how8, hbw8⟩; refine Hid.out ?_)
  have HZ8 := Lib.hid hbw8.size
  have HLo_y0 := Lib.hid (own_ge how8 (Nat.le_refl _))
  have HHi_y0 := Lib.hid (fun q hq => (how8.lt q hq).2)
  have H8 := Lib.hid (And.intro (H7.out.1.kept (grown_below hbw8 none) (none_okx _ _ _)) (And.intro (H7.out.2.1.kept (grown_below hbw8 none) (none_okx _ _ _)) (And.intro (H7.out.2.2.1.below hbw8) (And.intro (H7.out.2.2.2.1.kept (grown_below hbw8 none) (none_okx _ _ _)) (And.intro how8 (below_then H7.out.2.2.2.2 hbw8))))))
  clear how8 hbw8
  refine Lib.hid ?_
  go_wp2_with (go_at_call 21; refine (eqInts_any _ _ _ _ _ _ L0 hsm0 (Row.of_own H8.out.2.1) (Row.of_own H8.out.2.2.2.2.1)).mono ?_; rintro e w9 ⟨rfl, hg⟩; refine Hid.out ?_)
  have HZ9 := Lib.hid hg.size
  have H9 := Lib.hid (And.intro (H8.out.1.kept (grown_below (below_grown hg) none) (none_okx _ _ _)) (And.intro (H8.out.2.1.kept (grown_below (below_grown hg) none) (none_okx _ _ _)) (And.intro (H8.out.2.2.1.below (below_grown hg)) (And.intro (H8.out.2.2.2.1.kept (grown_below (below_grown hg) none) (none_okx _ _ _)) (below_then H8.out.2.2.2.2.2 (below_grown hg))))))
  clear hg
  refine Lib.hid ?_
  go_wp2_with (go_at_call 26; refine (toWrites_new _ _ _ _ L1 hsm1 (HR1.out.below H9.out.2.2.2.2)).mono ?_; rintro e w10 ⟨gw10, rfl, hgw10, how10, hbw10⟩; refine Hid.out ?_)
  have HZ10 := Lib.hid hbw10.size
  have HLo_y1 := Lib.hid (blk_lo (n := n1) (c := n1) hgw10)
  have HHi_y1 := Lib.hid (blk_hi (n := n1) (c := n1) how10.lt)
  have H10 := Lib.hid (And.intro (H9.out.1.kept (grown_below hbw10 none) (none_okx _ _ _)) (And.intro (H9.out.2.1.kept (grown_below hbw10 none) (none_okx _ _ _)) (And.intro (H9.out.2.2.1.below hbw10) (And.intro (H9.out.2.2.2.1.kept (grown_below hbw10 none) (none_okx _ _ _)) (And.intro how10 (below_then H9.out.2.2.2.2 hbw10))))))
  clear how10 hbw10 hgw10
  refine Lib.hid ?_
  go_wp2_with (go_at_call 27; refine (eqWrites_any _ _ _ _ _ _ L1 hsm1 (GRow.of_box writeC_len H10.out.2.2.1 HLen1.out) (GRow.of_box writeC_len H10.out.2.2.2.2.1 HLen1.out)).mono ?_; rintro e w11 ⟨rfl, hb⟩; refine Hid.out ?_)
  have HZ11 := Lib.hid hb.size
  have H11 := Lib.hid (And.intro (H10.out.1.kept (grown_below hb none) (none_okx _ _ _)) (And.intro (H10.out.2.1.kept (grown_below hb none) (none_okx _ _ _)) (And.intro (H10.out.2.2.1.below hb) (And.intro (H10.out.2.2.2.1.kept (grown_below hb none) (none_okx _ _ _)) (below_then H10.out.2.2.2.2.2 hb)))))
  clear hb
  refine Lib.hid ?_
  go_wp2_with (go_at_call 22; refine (markInts_any _ _ _ _ _ 1 _ hsm0 (by omega) H11.out.2.1).mono ?_; rintro e w12 ⟨rfl, hg, Lm, ho, hMk⟩; refine Hid.out ?_)
  have HZ12 := Lib.hid hg.size
  have H12 := Lib.hid (And.intro (H11.out.1.kept hg (low_high (fun q hq => Nat.lt_of_lt_of_le (HHi_res0.out q hq) (Nat.le_refl _)) HLo_x0.out)) (And.intro (H11.out.2.2.1.grown hg (box_apart2 HHi_x0.out (Nat.le_trans (Nat.le_refl _) (HLo_x1.out _ rfl)))) (And.intro (H11.out.2.2.2.1.kept hg (high_low (fun q hq => Nat.le_trans HZ5.out (HLo_res1.out q hq)) HHi_x0.out)) (H11.out.2.2.2.2.grown hg H11.out.2.2.2.2.size (fun q hq => Nat.le_trans (Nat.le_trans (Nat.le_trans HZ1.out HZ2.out) HZ3.out) (HLo_x0.out q hq))))))
  clear ho hg hMk
  refine Lib.hid ?_
  go_wp2_with (go_at_call 28; refine (markWrites_any _ _ _ _ _ _ H12.out.2.1 HSzC1.out _ (by omega) (by omega) (by omega)).mono ?_; rintro e w13 ⟨rfl, hg, cm, hbx, hsz, hNu⟩; refine Hid.out ?_)
  have HZ13 := Lib.hid hg.size
  have H13 := Lib.hid (And.intro (H12.out.1.kept hg (low_high (fun q hq => Nat.lt_of_lt_of_le (HHi_res0.out q hq) HZ4.out) HLo_x1.out)) (And.intro (H12.out.2.2.1.kept hg (high_low (fun q hq => Nat.le_trans (Nat.le_refl _) (HLo_res1.out q hq)) HHi_x1.out)) (H12.out.2.2.2.grown hg H12.out.2.2.2.size (fun q hq => Nat.le_trans (Nat.le_trans (Nat.le_trans (Nat.le_trans HZ1.out HZ2.out) HZ3.out) HZ4.out) (HLo_x1.out q hq)))))
  clear hg hbx hsz hNu
  refine Lib.hid ?_
  have hk1 : ¬ ((1 : Int) + (n0 : Int) + 2 * (n1 : Int)) < 0 := by omega
  go_wp2_with (go_at_call 21; refine (eqInts_any _ _ _ _ _ _ M (by omega) (Row.of_own H13.out.2.1) (Row.of_own H13.out.1)).mono ?_; rintro e w14 ⟨rfl, hg⟩; refine Hid.out ?_)
  have HZ14 := Lib.hid hg.size
  have H14 := Lib.hid (And.intro (H13.out.1.kept (grown_below (below_grown hg) none) (none_okx _ _ _)) (And.intro (H13.out.2.1.kept (grown_below (below_grown hg) none) (none_okx _ _ _)) (below_then H13.out.2.2 (below_grown hg))))
  clear hg
  refine Lib.hid ?_
  go_wp2_with (go_at_call 22; refine (markInts_any _ _ _ _ _ 1 _ (by omega) (by omega) H14.out.2.1).mono ?_; rintro e w15 ⟨rfl, hg, Lm, ho, hMk⟩; refine Hid.out ?_)
  have HZ15 := Lib.hid hg.size
  have HM := Lib.hid hMk
  have H15 := Lib.hid (And.intro (H14.out.1.kept hg (low_high (fun q hq => Nat.lt_of_lt_of_le (HHi_res0.out q hq) (Nat.le_trans HZ4.out HZ5.out)) HLo_res1.out)) (And.intro ho (H14.out.2.2.grown hg H14.out.2.2.size (fun q hq => Nat.le_trans (Nat.le_trans (Nat.le_trans (Nat.le_trans (Nat.le_trans HZ1.out HZ2.out) HZ3.out) HZ4.out) HZ5.out) (HLo_res1.out q hq)))))
  clear ho hg hMk
  refine Lib.hid ?_
  go_wp2_with (go_at_call 23; refine (heldInts_any _ _ _ _ 1 _ (by omega) (by omega) (Row.of_own H15.out.2.1) HM.out).mono ?_; rintro e w16 ⟨rfl, hg⟩; refine Hid.out ?_)
  have HZ16 := Lib.hid hg.size
  have H16 := Lib.hid (And.intro (H15.out.1.kept (grown_below (below_grown hg) none) (none_okx _ _ _)) (And.intro (H15.out.2.1.kept (grown_below (below_grown hg) none) (none_okx _ _ _)) (below_then H15.out.2.2 (below_grown hg))))
  clear hg
  refine Lib.hid ?_
  go_wp2_with (go_at_call 19; refine (toInts_new _ _ _ _ L0 hsm0 (HR0.out.below H16.out.2.2)).mono ?_; rintro e w17 ⟨gw17, rfl, how17, hbw17⟩; refine Hid.out ?_)
  have HZ17 := Lib.hid hbw17.size
  have HLo_tres20 := Lib.hid (own_ge how17 (Nat.le_refl _))
  have HHi_tres20 := Lib.hid (fun q hq => (how17.lt q hq).2)
  have H17 := Lib.hid (And.intro (H16.out.1.kept (grown_below hbw17 none) (none_okx _ _ _)) (And.intro (H16.out.2.1.kept (grown_below hbw17 none) (none_okx _ _ _)) (And.intro how17 (below_then H16.out.2.2 hbw17))))
  clear how17 hbw17
  refine Lib.hid ?_
  go_wp2_with (go_at_call 26; refine (toWrites_new _ _ _ _ L1 hsm1 (HR1.out.below H17.out.2.2.2)).mono ?_; rintro e w18 ⟨gw18, rfl, hgw18, how18, hbw18⟩; refine Hid.out ?_)
  have HZ18 := Lib.hid hbw18.size
  have HLo_tres21 := Lib.hid (blk_lo (n := n1) (c := n1) hgw18)
  have HHi_tres21 := Lib.hid (blk_hi (n := n1) (c := n1) how18.lt)
  have H18 := Lib.hid (And.intro (H17.out.1.kept (grown_below hbw18 none) (none_okx _ _ _)) (And.intro (H17.out.2.1.kept (grown_below hbw18 none) (none_okx _ _ _)) (And.intro (H17.out.2.2.1.kept (grown_below hbw18 none) (none_okx _ _ _)) (And.intro how18 (below_then H17.out.2.2.2 hbw18)))))
  clear how18 hbw18 hgw18
  refine Lib.hid ?_
  go_wp2_with (go_at_call 12; (with_reducible refine (HIP.out _ _ _ (Row.of_own H18.out.2.2.1) (GRow.of_box writeC_len H18.out.2.2.2.1 HLen1.out)).mono ?_); rintro e w19 ⟨adw19, mw19, cw19, rfl, how19, hbw19⟩; refine Hid.out ?_)
  have HZ19 := Lib.hid hbw19.size
  have HLo_res2 := Lib.hid (own_ge how19 (Nat.le_refl _))
  have HHi_res2 := Lib.hid (fun q hq => (how19.lt q hq).2)
  have hle_res2 : (mw19 : Int) ≤ 1048576 := by have := own_len how19; omega
  have H19 := Lib.hid (And.intro (H18.out.1.kept (grown_below hbw19 none) (none_okx _ _ _)) (And.intro (H18.out.2.1.kept (grown_below hbw19 none) (none_okx _ _ _)) (And.intro how19 (below_then H18.out.2.2.2.2 hbw19))))
  clear how19 hbw19
  refine Lib.hid ?_
  obtain rfl : mw19 = mw6 := by have h1 := own_len H19.out.2.2.1; have h2 := own_len H19.out.1; omega
  go_wp2_with (go_at_call 21; refine (eqInts_any _ _ _ _ _ _ M (by omega) (Row.of_own H19.out.2.2.1) (Row.of_own H19.out.1)).mono ?_; rintro e w20 ⟨rfl, hg⟩; refine Hid.out ?_)
  have HZ20 := Lib.hid hg.size
  have H20 := Lib.hid (And.intro (H19.out.1.kept (grown_below (below_grown hg) none) (none_okx _ _ _)) (And.intro (H19.out.2.1.kept (grown_below (below_grown hg) none) (none_okx _ _ _)) (And.intro (H19.out.2.2.1.kept (grown_below (below_grown hg) none) (none_okx _ _ _)) (below_then H19.out.2.2.2 (below_grown hg)))))
  clear hg
  refine Lib.hid ?_
  go_wp2_with (go_at_call 23; refine (heldInts_any _ _ _ _ 1 _ (by omega) (by omega) (Row.of_own H20.out.2.1) HM.out).mono ?_; rintro e w21 ⟨rfl, hg⟩; refine Hid.out ?_)
  have HZ21 := Lib.hid hg.size
  have H21 := Lib.hid (And.intro (H20.out.1.kept (grown_below (below_grown hg) none) (none_okx _ _ _)) (And.intro (H20.out.2.1.kept (grown_below (below_grown hg) none) (none_okx _ _ _)) (And.intro (H20.out.2.2.1.kept (grown_below (below_grown hg) none) (none_okx _ _ _)) (below_then H20.out.2.2.2 (below_grown hg)))))
  clear hg
  refine Lib.hid ?_
  go_wp2
  go_ret
  exact ⟨rfl, H21.out.2.2.2⟩

/-! ### THE ROW's STEP -/
set_option maxRecDepth 100000 in
theorem lifted (os : Os) (started : os.Started) (H : Type) (enc : TypeId × Value → H) :
    ReturnsInHanded {} Try.checked os 6 .any (Rows.fnExactApplyWritesSpec.pre6 enc Try.prog Try.f6 Rows.fnExactApplyWritesRow.domain false) (Rows.fnExactApplyWritesSpec.post enc Try.prog Try.f6 false true false false) := by
  refine returnsInHanded_of_change (C := Try.checked) own started (by kernel_rfl) Try.func6
    (ChangeSpec.witness6 (enc := enc) (C := Try.checked) false ⟨#[], #[.slice none 0 0, .slice none 0 0, .int .i64 0], []⟩ 8 (by kernel_rfl) (by kernel_rfl) (by kernel_rfl) (by kernel_rfl)) ?_
  intro W base args ds gs before hval0 hW hcnd _
  have hval : ∀ (j : Nat) t v, Try.f6.params[j]? = some t → args[j]? = some v → Value.okWide Try.prog W .any base t v := hval0
  have hW' := hW
  obtain ⟨p, q, hA0, hV, rfl, hfz, hnd⟩ := hW
  have hA : DataW.TrodAll enc Try.prog W 0 (fun _ => true) true Try.f6.params.toList args.toList ds p := hA0
  rw [Try.params6] at hA hval
  obtain ⟨v0, vs0, d0, ds0, p0, q0, hargs, rfl, rfl, h0, r0⟩ := trodAll_cons hA
  obtain ⟨v1, vs1, d1, ds1, p1, q1, rfl, rfl, rfl, h1, r1⟩ := trodAll_cons r0
  obtain ⟨v2, vs2, d2, ds2, p2, q2, rfl, rfl, rfl, h2, r2⟩ := trodAll_cons r1
  obtain ⟨rfl, rfl, rfl⟩ := trodAll_nil r2
  obtain rfl : args = #[v0, v1, v2] := by cases args; simp_all
  obtain ⟨rfl, rfl⟩ := trodVars_none hV
  obtain ⟨a0, len0, cap0, rfl⟩ := okWide_slice Try.underlying24 (hval 0 24 v0 rfl rfl)
  have k0 := h0
  have lt0 : ∀ x ∈ p0, x.block < W.heap.size := by obtain ⟨m, hm⟩ := k0; exact DataW.trod_lt m _ _ _ hm
  obtain ⟨z0, w0⟩ : ∃ zs, IsRow .i64 W a0 len0 cap0 zs := by
    obtain ⟨fuel, hf⟩ := h0
    rcases open_ints Try.underlying24 Try.underlying3 (by kernel_rfl) hf with ⟨hcs, _⟩ | ⟨x, l, c, zs, hcs, _, hl, hm, hz, _, hcell, hwz⟩
    · simp [Value.cells] at hcs
      obtain ⟨rfl, rfl, rfl⟩ := hcs
      exact ⟨[], .inl ⟨rfl, rfl, rfl, rfl⟩⟩
    · simp [Value.cells] at hcs
      obtain ⟨rfl, rfl, rfl⟩ := hcs
      exact ⟨zs, .inr ⟨_, rfl, hl, hm, by simpa using hz, hcell, hwz⟩⟩
  have k1 := h1
  have lt1 : ∀ x ∈ p1, x.block < W.heap.size := by obtain ⟨m, hm⟩ := k1; exact DataW.trod_lt m _ _ _ hm
  have w1 : IsWrites W v1 := open_Writes (hval 1 42 v1 rfl rfl) h1
  obtain ⟨a2, rfl, rfl, rfl, w2⟩ := open_int Try.underlying3 (hval 2 3 v2 rfl rfl) h2
  clear hA0 hval0
  refine (walk a0 len0 cap0 z0 v1 a2 W w0 w1 w2).mono fun e W' ⟨he, bel⟩ => ?_
  subst he
  exact ⟨_, rfl, _, _, _, [], _, [], hW', trodAll_mk1 (shut_bool Try.underlying4 _), (trodAll_cons_mk (Below.trod laidOut (by kernel_rfl) (of_decide_eq_true (by kernel_rfl)) k0 bel lt0) (trodAll_cons_mk (Below.trod laidOut (by kernel_rfl) (of_decide_eq_true (by kernel_rfl)) k1 bel lt1) (trodAll_cons_mk (shut_int Try.underlying3 w2) trodAll_mk0))), rfl, bel.frame _, fun h => by cases h⟩

theorem over : Rows.fnExactApplyWritesRow.holds Try.pinned (OpenSpec.ofChange Rows.fnExactApplyWritesSpec) :=
  OpenClaim.holds_of_wide 6 Try.f6 rfl rfl rfl rfl rfl rfl rfl ⟨rfl, rfl, rfl, rfl, rfl⟩ rfl rfl rfl rfl rfl (by kernel_rfl) Try.func6 (by kernel_rfl)
    (of_decide_eq_true (by kernel_rfl)) (by unfold Func.isWrapper; first | (rw [if_pos (by decide +kernel)]; kernel_rfl) | (rw [if_neg (by decide +kernel)]; exact ⟨rfl, rfl⟩))
    (fun os started H enc _ => lifted os started H enc)

/-- ████ THE STATEMENT ████ -/
theorem proved : Rows.FnExactApplyWritesSaid := over
#print axioms proved
end Go.Proofs.Ytmanplejhcjnaaa.fnExactApplyWrites
