/- For every argument FnExactWriteWord returns true and leaves its arguments as they were; no condition. -/
import Derived.Test.YtmanplejhcjnaaaRows
import Derived.WalkKit
import Derived.ProofKit
import Derived.OpenShut
import Derived.ShutString
import Derived.ChangeOld
import Derived.Below
import Derived.Test.YtmanplejhcjnaaaWtJ
import Derived.Test.YtmanplejhcjnaaaWtM
import Derived.Deep.RegionHeld3
namespace Go.Proofs.Ytmanplejhcjnaaa.fnExactWriteWord
open Go.ChangeShapes Go.WideShapes Go.ChangeAt Go.RowKit
open Go.ChangeMaps (open_string shut_string)
set_option linter.unusedVariables false

theorem own : ownKnob Try.prog.godebug = none := by kernel_rfl
theorem laidOut : laidOutB Try.prog = true := by kernel_rfl

/-- A row of numbers that came in: nil, or 'cap' cells that hold 'zs', of which the first 'len' are its elements. -/
def IsRow (k : IntKind) (w : World) (a : Option Addr) (len cap : Nat) (zs : List Int) : Prop :=
  (a = none ∧ len = 0 ∧ cap = 0 ∧ zs = []) ∨
  ∃ x, a = some x ∧ len ≤ cap ∧ cap ≤ maxLen ∧ zs.length = cap ∧ (∀ i, i < zs.length → w.cell? (x.add i) = some (.int k (zs.getD i 0))) ∧ ∀ n ∈ zs, (Lit.int k n).wf = true

open Go.Proofs.Ytmanplejhcjnaaa.row Go.Proofs.Ytmanplejhcjnaaa.val Go.Proofs.Ytmanplejhcjnaaa.expr Go.Proofs.Ytmanplejhcjnaaa.grow Go.Proofs.Ytmanplejhcjnaaa.opn Go.Proofs.Ytmanplejhcjnaaa.wrt
theorem row_of {w : World} {a0 : Option Addr} {len0 cap0 : Nat} {z0 : List Int} (w0 : IsRow .i64 w a0 len0 cap0 z0) : Row w a0 len0 (z0.take len0) ∧ len0 ≤ maxLen ∧ ∀ x ∈ z0.take len0, -9223372036854775808 ≤ x ∧ x ≤ 9223372036854775807 := by
  rcases w0 with ⟨rfl, rfl, _, rfl⟩ | ⟨x, rfl, hl, hm, hz, hcell, hwf⟩
  · exact ⟨Row.none_ w, by decide, by simp⟩
  · exact ⟨Row.of_ints hl hz hcell, by omega, fun x hx => bounds_i64 (hwf x (List.mem_of_mem_take hx))⟩
theorem low_high {u v : Value} {b : Nat} (hv : ∀ q, v.ownBlock = some q → q < b) (hu : ∀ q, u.ownBlock = some q → b ≤ q) : v.ownBlock = none ∨ v.ownBlock ≠ u.ownBlock := by
  cases hq : v.ownBlock with
  | none => exact .inl rfl
  | some q => right; intro e; have := hv q hq; have := hu q e.symm; omega
theorem high_low {u v : Value} {b : Nat} (hv : ∀ q, v.ownBlock = some q → b ≤ q) (hu : ∀ q, u.ownBlock = some q → q < b) : v.ownBlock = none ∨ v.ownBlock ≠ u.ownBlock := by
  cases hq : v.ownBlock with
  | none => exact .inl rfl
  | some q => right; intro e; have := hv q hq; have := hu q e.symm; omega
theorem own_ge {w : World} {base n sz : Nat} {e : TypeId} {v : Value} {xs : List Value} (h : w.ownsRow base e sz v n xs) {b : Nat} (hb : b ≤ base) : ∀ q, v.ownBlock = some q → b ≤ q := fun q hq => Nat.le_trans hb (h.lt q hq).1
theorem none_okx (ad : Option Addr) (n c : Nat) : (Value.slice ad n c).ownBlock = none ∨ (Value.slice ad n c).ownBlock ≠ none := by cases ad <;> simp [Value.ownBlock]
theorem blk_hi {g b n c : Nat} (h : g < b) : ∀ q, (Value.slice (some ⟨g, 0, none⟩) n c).ownBlock = some q → q < b := fun q hq => by cases hq; exact h
theorem blk_lo {g b n c : Nat} (h : b ≤ g) : ∀ q, (Value.slice (some ⟨g, 0, none⟩) n c).ownBlock = some q → b ≤ q := fun q hq => by cases hq; exact h
theorem own_apart2 {v : Value} {g b : Nat} (hv : ∀ q, v.ownBlock = some q → q < b) (hg : b ≤ g) : v.ownBlock = none ∨ v.ownBlock ≠ some g := by
  cases hq : v.ownBlock with
  | none => exact .inl rfl
  | some q => right; intro e; have := hv q hq; have := Option.some.inj e; omega
theorem own_apart3 {v : Value} {g b : Nat} (hv : ∀ q, v.ownBlock = some q → b ≤ q) (hg : g < b) : v.ownBlock = none ∨ v.ownBlock ≠ some g := by
  cases hq : v.ownBlock with
  | none => exact .inl rfl
  | some q => right; intro e; have := hv q hq; have := Option.some.inj e; omega
theorem box_apart {v : Value} {g b : Nat} (hg : g < b) (hv : ∀ q, v.ownBlock = some q → b ≤ q) : some g ≠ v.ownBlock := fun e => by have := hv g e.symm; omega
theorem box_apart2 {v : Value} {g b : Nat} (hv : ∀ q, v.ownBlock = some q → q < b) (hg : b ≤ g) : some g ≠ v.ownBlock := fun e => by have := hv g e.symm; omega
theorem drew_belowx {w w' : World} (h : Below w.drew.heap.size w.drew w') : Below w.heap.size w w' := (Below.drew (Below.refl _ w)).trans h
theorem keptc2 {w w' : World} {g0 : Nat} {x0 x1 : Value} (hb : Below w.heap.size w w') (hg0 : g0 < w.heap.size) (h : w.cell? ⟨g0, 0, none⟩ = some x0 ∧ w.cell? ⟨g0, 1, none⟩ = some x1) : w'.cell? ⟨g0, 0, none⟩ = some x0 ∧ w'.cell? ⟨g0, 1, none⟩ = some x1 :=
  ⟨(hb.cell (p := ⟨g0, 0, none⟩) hg0).trans h.1, (hb.cell (p := ⟨g0, 1, none⟩) hg0).trans h.2⟩
set_option maxHeartbeats 8000000 in
set_option maxRecDepth 100000 in
theorem walk (a0 : Option Addr) (len0 cap0 : Nat) (z0 : List Int) (a1 : Value) (w : World) (w0 : IsRow .i64 w a0 len0 cap0 z0) (w1 : IsWrite w a1) :
    Calls Try.prog 5 #[.slice a0 len0 cap0, a1] w fun e w' => e = .returned (.bool true) ∧ Below w.heap.size w w' := by
  obtain ⟨hR0, hm0, hwf0⟩ := row_of w0
  clear w0
  unfold maxLen at hm0
  obtain ⟨L0, hL0⟩ : ∃ L, L = z0.take len0 := ⟨_, rfl⟩
  rw [← hL0] at hR0 hwf0
  clear hL0
  obtain ⟨n0, hn0⟩ : ∃ n, n = len0 := ⟨_, rfl⟩
  rw [← hn0] at hR0 hm0 ⊢
  clear hn0
  have HR0 := Lib.hid hR0
  obtain ⟨s1, rfl, hwf1⟩ := w1
  obtain ⟨wb, hwb⟩ : ∃ x, (w.alloc (.cells #[.int .i64 s1.p, .int .i64 s1.v] 37)) = x := ⟨_, rfl⟩
  have hx1 : Box w.heap.size #[.int .i64 s1.p, .int .i64 s1.v] 37 wb := by
    have h := Box.new w #[.int .i64 s1.p, .int .i64 s1.v] 37
    rw [← hwb]; exact h
  have hbw : Below w.heap.size w wb := by rw [← hwb]; exact ((Below.refl _ w).alloc (Nat.le_refl _) _)
  have HBOX := Lib.hid (And.intro hx1 hbw)
  have hszb : w.heap.size + 1 ≤ wb.heap.size := by rw [← hwb]; simp
  clear hx1 hbw
  subst hwb
  by_cases hbig0 : (1048576 : Int) < n0
  · go_enter Try.func5, Try.ntmps5
    go_wp2
    go_ret
    exact ⟨rfl, HBOX.out.2⟩
  have hsm0 : (n0 : Int) ≤ 1048576 := by omega
  obtain ⟨M, hr⟩ : ∃ M, put1 L0 s1 = M := ⟨_, rfl⟩
  have hMl : (M.length : Int) ≤ 1048576 := by rw [← hr]; exact (by have := put1_len L0 s1; have := hR0.1; omega)
  have HSP := Lib.hid (show ∀ (w' : World) (b0 : Nat), Row w' (some ⟨b0, 0, none⟩) n0 L0 → Calls Try.prog 18 #[.slice (some ⟨b0, 0, none⟩) n0 n0, writeV s1] w' (NewInts w' M) from fun w' b0 h0 => by rw [← hr]; exact spec_write w' b0 0 n0 n0 L0 s1 hsm0 h0)
  have HIP := Lib.hid (show ∀ (w' : World) (b0 : Nat), Row w' (some ⟨b0, 0, none⟩) n0 L0 → Calls Try.prog 16 #[.slice (some ⟨b0, 0, none⟩) n0 n0, writeV s1] w' (NewInts w' M) from fun w' b0 h0 => by rw [← hr]; exact (impl_write w' _ n0 n0 L0 s1 hsm0 h0).mono fun _ _ h => h.ints (by rw [put1_len]; exact h0.1) hsm0)
  clear hR0 hr hwf0 hwf1 hbig0
  go_enter Try.func5, Try.ntmps5
  have H0 := HBOX
  have HW0 := Lib.hid (show w.heap.size ≤ (w.alloc (.cells #[.int .i64 s1.p, .int .i64 s1.v] 37)).heap.size from HBOX.out.2.size)
  have HHi_box1 := Lib.hid (show w.heap.size < (w.alloc (.cells #[.int .i64 s1.p, .int .i64 s1.v] 37)).heap.size from HBOX.out.1.lt)
  have hltx := H0.out.1.lt
  have c0x : (w.alloc (.cells #[.int .i64 s1.p, .int .i64 s1.v] 37)).drew.cell? ⟨w.heap.size, 0, none⟩ = some (.int .i64 s1.p) ∧ (w.alloc (.cells #[.int .i64 s1.p, .int .i64 s1.v] 37)).drew.cell? ⟨w.heap.size, 1, none⟩ = some (.int .i64 s1.v) := ⟨H0.out.1.cell 0, H0.out.1.cell 1⟩
  go_wp2
  go_region_held3 (fun w' => w'.cell? ⟨w.heap.size, 0, none⟩ = some (.int .i64 s1.p) ∧ w'.cell? ⟨w.heap.size, 1, none⟩ = some (.int .i64 s1.v))
    (first | (exact c0x) | go_keep | (exact keptc2 (by assumption) (by assumption) (by assumption)) | (exact keptc2 (drew_belowx (by assumption)) (by assumption) (by assumption)))
    (first
      | (go_at_call 19; refine (toInts_new _ _ _ _ L0 hsm0 (HR0.out.below (Below.drew H0.out.2))).mono ?_; rintro e w1 ⟨gw1, rfl, how1, hbw1⟩; replace hbw1 := drew_belowx hbw1; have hltw1 := Nat.lt_of_lt_of_le hltx hbw1.size)
      | (go_at_call 20; refine (toWrite_any _ _).mono ?_; rintro e w2 ⟨rfl, hbw2⟩; have hltw2 := Nat.lt_of_lt_of_le hltw1 hbw2.size)
      | (go_at_call 18; (with_reducible refine (HSP.out _ _ ((Row.of_own how1).below hbw2)).mono ?_); rintro e w3 ⟨adw3, mw3, cw3, rfl, how3, hbw3⟩))
  refine Hid.out ?_
  have hbG := (below_then (below_then hbw1 hbw2) hbw3)
  have HZ1 := Lib.hid hbw1.size
  have HZ2 := Lib.hid hbw2.size
  have HZ3 := Lib.hid hbw3.size
  have HLo_res0 := Lib.hid (own_ge how3 (Nat.le_refl _))
  have HHi_res0 := Lib.hid (fun q hq => (how3.lt q hq).2)
  have hle_res0 : (mw3 : Int) ≤ 1048576 := by have := own_len how3; omega
  have H1 := Lib.hid (And.intro (H0.out.1.below hbG) (And.intro how3 (below_then H0.out.2 hbG)))
  clear how1 how3 hbw1 hbw2 hbw3 hbG hltx c0x hltw1 hltw2
  refine Lib.hid ?_
  go_wp2_with (go_at_call 19; refine (toInts_new _ _ _ _ L0 hsm0 (HR0.out.below H1.out.2.2)).mono ?_; rintro e w4 ⟨gw4, rfl, how4, hbw4⟩; refine Hid.out ?_)
  have HZ4 := Lib.hid hbw4.size
  have HLo_x0 := Lib.hid (own_ge how4 (Nat.le_refl _))
  have HHi_x0 := Lib.hid (fun q hq => (how4.lt q hq).2)
  have H2 := Lib.hid (And.intro (H1.out.1.below hbw4) (And.intro (H1.out.2.1.kept (grown_below hbw4 none) (none_okx _ _ _)) (And.intro how4 (below_then H1.out.2.2 hbw4))))
  clear how4 hbw4
  refine Lib.hid ?_
  go_wp2_with (first
    | (refine wpList_load_row rfl 37 _ rfl w.heap.size rfl _ _ _ _ H2.out.1 Try.underlying37 rfl (by kernel_rfl) ?_)
    | (go_at_call 20; refine (toWrite_any _ _).mono ?_; rintro e w5 ⟨rfl, hbw5⟩; refine Hid.out ?_))
  have HZ5 := Lib.hid hbw5.size
  have H3 := Lib.hid (And.intro (H2.out.1.below hbw5) (And.intro (H2.out.2.1.kept (grown_below hbw5 none) (none_okx _ _ _)) (And.intro (H2.out.2.2.1.kept (grown_below hbw5 none) (none_okx _ _ _)) (below_then H2.out.2.2.2 hbw5))))
  clear hbw5
  refine Lib.hid ?_
  go_wp2_with (go_at_call 16; (with_reducible refine (HIP.out _ _ (Row.of_own H3.out.2.2.1)).mono ?_); rintro e w6 ⟨adw6, mw6, cw6, rfl, how6, hbw6⟩; refine Hid.out ?_)
  have HZ6 := Lib.hid hbw6.size
  have HLo_res1 := Lib.hid (own_ge how6 (Nat.le_refl _))
  have HHi_res1 := Lib.hid (fun q hq => (how6.lt q hq).2)
  have hle_res1 : (mw6 : Int) ≤ 1048576 := by have := own_len how6; omega
  have H4 := Lib.hid (And.intro (H3.out.1.below hbw6) (And.intro (H3.out.2.1.kept (grown_below hbw6 none) (none_okx _ _ _)) (And.intro (H3.out.2.2.1.kept (grown_below hbw6 none) (none_okx _ _ _)) (And.intro how6 (below_then H3.out.2.2.2 hbw6)))))
  clear how6 hbw6
  refine Lib.hid ?_
  obtain rfl : mw6 = mw3 := by have h1 := own_len H4.out.2.2.2.1; have h2 := own_len H4.out.2.1; omega
  go_wp2_with (go_at_call 21; refine (eqInts_any _ _ _ _ _ _ M (by omega) (Row.of_own H4.out.2.2.2.1) (Row.of_own H4.out.2.1)).mono ?_; rintro e w7 ⟨rfl, hg⟩; refine Hid.out ?_)
  have HZ7 := Lib.hid hg.size
  have H5 := Lib.hid (And.intro (H4.out.1.below (below_grown hg)) (And.intro (H4.out.2.1.kept (grown_below (below_grown hg) none) (none_okx _ _ _)) (And.intro (H4.out.2.2.1.kept (grown_below (below_grown hg) none) (none_okx _ _ _)) (And.intro (H4.out.2.2.2.1.kept (grown_below (below_grown hg) none) (none_okx _ _ _)) (below_then H4.out.2.2.2.2 (below_grown hg))))))
  clear hg
  refine Lib.hid ?_
  go_wp2_with (go_at_call 19; refine (toInts_new _ _ _ _ L0 hsm0 (HR0.out.below H5.out.2.2.2.2)).mono ?_; rintro e w8 ⟨gw8, rfl, how8, hbw8⟩; refine Hid.out ?_)
  have HZ8 := Lib.hid hbw8.size
  have HLo_y0 := Lib.hid (own_ge how8 (Nat.le_refl _))
  have HHi_y0 := Lib.hid (fun q hq => (how8.lt q hq).2)
  have H6 := Lib.hid (And.intro (H5.out.1.below hbw8) (And.intro (H5.out.2.1.kept (grown_below hbw8 none) (none_okx _ _ _)) (And.intro (H5.out.2.2.1.kept (grown_below hbw8 none) (none_okx _ _ _)) (And.intro (H5.out.2.2.2.1.kept (grown_below hbw8 none) (none_okx _ _ _)) (And.intro how8 (below_then H5.out.2.2.2.2 hbw8))))))
  clear how8 hbw8
  refine Lib.hid ?_
  go_wp2_with (go_at_call 21; refine (eqInts_any _ _ _ _ _ _ L0 hsm0 (Row.of_own H6.out.2.2.1) (Row.of_own H6.out.2.2.2.2.1)).mono ?_; rintro e w9 ⟨rfl, hg⟩; refine Hid.out ?_)
  have HZ9 := Lib.hid hg.size
  have H7 := Lib.hid (And.intro (H6.out.1.below (below_grown hg)) (And.intro (H6.out.2.1.kept (grown_below (below_grown hg) none) (none_okx _ _ _)) (And.intro (H6.out.2.2.1.kept (grown_below (below_grown hg) none) (none_okx _ _ _)) (And.intro (H6.out.2.2.2.1.kept (grown_below (below_grown hg) none) (none_okx _ _ _)) (below_then H6.out.2.2.2.2.2 (below_grown hg))))))
  clear hg
  refine Lib.hid ?_
  go_wp2_with (go_at_call 22; refine (markInts_any _ _ _ _ _ 1 _ hsm0 (by omega) H7.out.2.2.1).mono ?_; rintro e w10 ⟨rfl, hg, Lm, ho, hMk⟩; refine Hid.out ?_)
  have HZ10 := Lib.hid hg.size
  have H8 := Lib.hid (And.intro (H7.out.1.grown hg (box_apart HHi_box1.out (fun q hq => Nat.le_trans (Nat.le_trans (Nat.le_trans HZ1.out HZ2.out) HZ3.out) (HLo_x0.out q hq)))) (And.intro (H7.out.2.1.kept hg (low_high (fun q hq => Nat.lt_of_lt_of_le (HHi_res0.out q hq) (Nat.le_refl _)) HLo_x0.out)) (And.intro (H7.out.2.2.2.1.kept hg (high_low (fun q hq => Nat.le_trans HZ5.out (HLo_res1.out q hq)) HHi_x0.out)) (H7.out.2.2.2.2.grown hg H7.out.2.2.2.2.size (fun q hq => Nat.le_trans (Nat.le_trans HW0.out (Nat.le_trans (Nat.le_trans HZ1.out HZ2.out) HZ3.out)) (HLo_x0.out q hq))))))
  clear ho hg hMk
  refine Lib.hid ?_
  have hk1 : ¬ ((1 : Int) + (n0 : Int)) < 0 := by omega
  go_wp2_with (go_at_call 21; refine (eqInts_any _ _ _ _ _ _ M (by omega) (Row.of_own H8.out.2.2.1) (Row.of_own H8.out.2.1)).mono ?_; rintro e w11 ⟨rfl, hg⟩; refine Hid.out ?_)
  have HZ11 := Lib.hid hg.size
  have H9 := Lib.hid (And.intro (H8.out.1.below (below_grown hg)) (And.intro (H8.out.2.1.kept (grown_below (below_grown hg) none) (none_okx _ _ _)) (And.intro (H8.out.2.2.1.kept (grown_below (below_grown hg) none) (none_okx _ _ _)) (below_then H8.out.2.2.2 (below_grown hg)))))
  clear hg
  refine Lib.hid ?_
  go_wp2_with (go_at_call 22; refine (markInts_any _ _ _ _ _ 1 _ (by omega) (by omega) H9.out.2.2.1).mono ?_; rintro e w12 ⟨rfl, hg, Lm, ho, hMk⟩; refine Hid.out ?_)
  have HZ12 := Lib.hid hg.size
  have HM := Lib.hid hMk
  have H10 := Lib.hid (And.intro (H9.out.1.grown hg (box_apart HHi_box1.out (fun q hq => Nat.le_trans (Nat.le_trans (Nat.le_trans (Nat.le_trans (Nat.le_trans HZ1.out HZ2.out) HZ3.out) HZ4.out) HZ5.out) (HLo_res1.out q hq)))) (And.intro (H9.out.2.1.kept hg (low_high (fun q hq => Nat.lt_of_lt_of_le (HHi_res0.out q hq) (Nat.le_trans HZ4.out HZ5.out)) HLo_res1.out)) (And.intro ho (H9.out.2.2.2.grown hg H9.out.2.2.2.size (fun q hq => Nat.le_trans (Nat.le_trans HW0.out (Nat.le_trans (Nat.le_trans (Nat.le_trans (Nat.le_trans HZ1.out HZ2.out) HZ3.out) HZ4.out) HZ5.out)) (HLo_res1.out q hq))))))
  clear ho hg hMk
  refine Lib.hid ?_
  go_wp2_with (go_at_call 23; refine (heldInts_any _ _ _ _ 1 _ (by omega) (by omega) (Row.of_own H10.out.2.2.1) HM.out).mono ?_; rintro e w13 ⟨rfl, hg⟩; refine Hid.out ?_)
  have HZ13 := Lib.hid hg.size
  have H11 := Lib.hid (And.intro (H10.out.1.below (below_grown hg)) (And.intro (H10.out.2.1.kept (grown_below (below_grown hg) none) (none_okx _ _ _)) (And.intro (H10.out.2.2.1.kept (grown_below (below_grown hg) none) (none_okx _ _ _)) (below_then H10.out.2.2.2 (below_grown hg)))))
  clear hg
  refine Lib.hid ?_
  have hltx := H11.out.1.lt
  have c0x : w13.drew.cell? ⟨w.heap.size, 0, none⟩ = some (.int .i64 s1.p) ∧ w13.drew.cell? ⟨w.heap.size, 1, none⟩ = some (.int .i64 s1.v) := ⟨H11.out.1.cell 0, H11.out.1.cell 1⟩
  go_wp2
  go_region_held3 (fun w' => w'.cell? ⟨w.heap.size, 0, none⟩ = some (.int .i64 s1.p) ∧ w'.cell? ⟨w.heap.size, 1, none⟩ = some (.int .i64 s1.v))
    (first | (exact c0x) | go_keep | (exact keptc2 (by assumption) (by assumption) (by assumption)) | (exact keptc2 (drew_belowx (by assumption)) (by assumption) (by assumption)))
    (first
      | (go_at_call 19; refine (toInts_new _ _ _ _ L0 hsm0 (HR0.out.below (Below.drew H11.out.2.2.2))).mono ?_; rintro e w14 ⟨gw14, rfl, how14, hbw14⟩; replace hbw14 := drew_belowx hbw14; have hltw14 := Nat.lt_of_lt_of_le hltx hbw14.size)
      | (go_at_call 20; refine (toWrite_any _ _).mono ?_; rintro e w15 ⟨rfl, hbw15⟩; have hltw15 := Nat.lt_of_lt_of_le hltw14 hbw15.size)
      | (go_at_call 16; (with_reducible refine (HIP.out _ _ ((Row.of_own how14).below hbw15)).mono ?_); rintro e w16 ⟨adw16, mw16, cw16, rfl, how16, hbw16⟩))
  refine Hid.out ?_
  have hbG := (below_then (below_then hbw14 hbw15) hbw16)
  have HZ14 := Lib.hid hbw14.size
  have HZ15 := Lib.hid hbw15.size
  have HZ16 := Lib.hid hbw16.size
  have HLo_res2 := Lib.hid (own_ge how16 (Nat.le_refl _))
  have HHi_res2 := Lib.hid (fun q hq => (how16.lt q hq).2)
  have hle_res2 : (mw16 : Int) ≤ 1048576 := by have := own_len how16; omega
  have H12 := Lib.hid (And.intro (H11.out.1.below hbG) (And.intro (H11.out.2.1.kept (grown_below hbG none) (none_okx _ _ _)) (And.intro (H11.out.2.2.1.kept (grown_below hbG none) (none_okx _ _ _)) (And.intro how16 (below_then H11.out.2.2.2 hbG)))))
  clear how14 how16 hbw14 hbw15 hbw16 hbG hltx c0x hltw14 hltw15
  refine Lib.hid ?_
  obtain rfl : mw16 = mw6 := by have h1 := own_len H12.out.2.2.2.1; have h2 := own_len H12.out.2.1; omega
  go_wp2_with (go_at_call 21; refine (eqInts_any _ _ _ _ _ _ M (by omega) (Row.of_own H12.out.2.2.2.1) (Row.of_own H12.out.2.1)).mono ?_; rintro e w17 ⟨rfl, hg⟩; refine Hid.out ?_)
  have HZ17 := Lib.hid hg.size
  have H13 := Lib.hid (And.intro (H12.out.1.below (below_grown hg)) (And.intro (H12.out.2.1.kept (grown_below (below_grown hg) none) (none_okx _ _ _)) (And.intro (H12.out.2.2.1.kept (grown_below (below_grown hg) none) (none_okx _ _ _)) (And.intro (H12.out.2.2.2.1.kept (grown_below (below_grown hg) none) (none_okx _ _ _)) (below_then H12.out.2.2.2.2 (below_grown hg))))))
  clear hg
  refine Lib.hid ?_
  go_wp2_with (go_at_call 23; refine (heldInts_any _ _ _ _ 1 _ (by omega) (by omega) (Row.of_own H13.out.2.2.1) HM.out).mono ?_; rintro e w18 ⟨rfl, hg⟩; refine Hid.out ?_)
  have HZ18 := Lib.hid hg.size
  have H14 := Lib.hid (And.intro (H13.out.1.below (below_grown hg)) (And.intro (H13.out.2.1.kept (grown_below (below_grown hg) none) (none_okx _ _ _)) (And.intro (H13.out.2.2.1.kept (grown_below (below_grown hg) none) (none_okx _ _ _)) (And.intro (H13.out.2.2.2.1.kept (grown_below (below_grown hg) none) (none_okx _ _ _)) (below_then H13.out.2.2.2.2 (below_grown hg))))))
  clear hg
  refine Lib.hid ?_
  go_wp2
  go_ret
  exact ⟨rfl, H14.out.2.2.2.2⟩

/-! ### THE ROW's STEP -/
set_option maxRecDepth 100000 in
theorem lifted (os : Os) (started : os.Started) (H : Type) (enc : TypeId × Value → H) :
    ReturnsInHanded {} Try.checked os 5 .any (Rows.fnExactWriteWordSpec.pre6 enc Try.prog Try.f5 Rows.fnExactWriteWordRow.domain false) (Rows.fnExactWriteWordSpec.post enc Try.prog Try.f5 false true false false) := by
  refine returnsInHanded_of_change (C := Try.checked) own started (by kernel_rfl) Try.func5
    (ChangeSpec.witness6 (enc := enc) (C := Try.checked) false ⟨#[], #[.slice none 0 0, .agg #[.int .i64 0, .int .i64 0]], []⟩ 8 (by kernel_rfl) (by kernel_rfl) (by kernel_rfl) (by kernel_rfl)) ?_
  intro W base args ds gs before hval0 hW hcnd _
  have hval : ∀ (j : Nat) t v, Try.f5.params[j]? = some t → args[j]? = some v → Value.okWide Try.prog W .any base t v := hval0
  have hW' := hW
  obtain ⟨p, q, hA0, hV, rfl, hfz, hnd⟩ := hW
  have hA : DataW.TrodAll enc Try.prog W 0 (fun _ => true) true Try.f5.params.toList args.toList ds p := hA0
  rw [Try.params5] at hA hval
  obtain ⟨v0, vs0, d0, ds0, p0, q0, hargs, rfl, rfl, h0, r0⟩ := trodAll_cons hA
  obtain ⟨v1, vs1, d1, ds1, p1, q1, rfl, rfl, rfl, h1, r1⟩ := trodAll_cons r0
  obtain ⟨rfl, rfl, rfl⟩ := trodAll_nil r1
  obtain rfl : args = #[v0, v1] := by cases args; simp_all
  obtain ⟨rfl, rfl⟩ := trodVars_none hV
  obtain ⟨a0, len0, cap0, rfl⟩ := okWide_slice Try.underlying24 (hval 0 24 v0 rfl rfl)
  have k0 := h0
  have lt0 : ∀ x ∈ p0, x.block < W.heap.size := by obtain ⟨m, hm⟩ := k0; exact DataW.trod_lt m _ _ _ hm
  obtain ⟨z0, w0⟩ : ∃ zs, IsRow .i64 W a0 len0 cap0 zs := by
    obtain ⟨fuel, hf⟩ := h0
    rcases open_ints Try.underlying24 Try.underlying3 (by kernel_rfl) hf with ⟨hcs, _⟩ | ⟨x, l, c, zs, hcs, _, hl, hm, hz, _, hcell, hwz⟩
    · simp [Value.cells] at hcs
      obtain ⟨rfl, rfl, rfl⟩ := hcs
      exact ⟨[], .inl ⟨rfl, rfl, rfl, rfl⟩⟩
    · simp [Value.cells] at hcs
      obtain ⟨rfl, rfl, rfl⟩ := hcs
      exact ⟨zs, .inr ⟨_, rfl, hl, hm, by simpa using hz, hcell, hwz⟩⟩
  have k1 := h1
  have lt1 : ∀ x ∈ p1, x.block < W.heap.size := by obtain ⟨m, hm⟩ := k1; exact DataW.trod_lt m _ _ _ hm
  have w1 : IsWrite W v1 := open_Write (hval 1 37 v1 rfl rfl) h1
  clear hA0 hval0
  refine (walk a0 len0 cap0 z0 v1 W w0 w1).mono fun e W' ⟨he, bel⟩ => ?_
  subst he
  exact ⟨_, rfl, _, _, _, [], _, [], hW', trodAll_mk1 (shut_bool Try.underlying4 _), (trodAll_cons_mk (Below.trod laidOut (by kernel_rfl) (of_decide_eq_true (by kernel_rfl)) k0 bel lt0) (trodAll_cons_mk (Below.trod laidOut (by kernel_rfl) (of_decide_eq_true (by kernel_rfl)) k1 bel lt1) trodAll_mk0)), rfl, bel.frame _, fun h => by cases h⟩

theorem over : Rows.fnExactWriteWordRow.holds Try.pinned (OpenSpec.ofChange Rows.fnExactWriteWordSpec) :=
  OpenClaim.holds_of_wide 5 Try.f5 rfl rfl rfl rfl rfl rfl rfl ⟨rfl, rfl, rfl, rfl, rfl⟩ rfl rfl rfl rfl rfl (by kernel_rfl) Try.func5 (by kernel_rfl)
    (of_decide_eq_true (by kernel_rfl)) (by unfold Func.isWrapper; first | (rw [if_pos (by decide +kernel)]; kernel_rfl) | (rw [if_neg (by decide +kernel)]; exact ⟨rfl, rfl⟩))
    (fun os started H enc _ => lifted os started H enc)

/-- ████ THE STATEMENT ████ -/
theorem proved : Rows.FnExactWriteWordSaid := over
#print axioms proved
end Go.Proofs.Ytmanplejhcjnaaa.fnExactWriteWord
