/- For every task FnExactMustLog returns true and leaves the task as it was; no condition. -/
import Derived.Test.YtebokjjeeedmjaaRows
import Derived.WalkKit
import Derived.ProofKit
import Derived.OpenShut
import Derived.ShutString
import Derived.ChangeOld
import Derived.Below
import Derived.Test.YtebokjjeeedmjaaGHub37
import Derived.Test.YtebokjjeeedmjaaGHub38
import Derived.Test.YtebokjjeeedmjaaGHub45
import Derived.Test.YtebokjjeeedmjaaGHub46
import Derived.Test.YtebokjjeeedmjaaGHub47
import Derived.Test.YtebokjjeeedmjaaGHub31
import Derived.Test.YtebokjjeeedmjaaGHub16
import Derived.Deep.RegionHeld3
namespace Go.Proofs.Ytebokjjeeedmjaa.fnExactMustLog
open Go.ChangeShapes Go.WideShapes Go.ChangeAt Go.RowKit
open Go.ChangeMaps (open_string shut_string)
set_option linter.unusedVariables false

theorem own : ownKnob Try.prog.godebug = none := by kernel_rfl
theorem laidOut : laidOutB Try.prog = true := by kernel_rfl

open Go.Proofs.Ytebokjjeeedmjaa.row Go.Proofs.Ytebokjjeeedmjaa.val Go.Proofs.Ytebokjjeeedmjaa.expr Go.Proofs.Ytebokjjeeedmjaa.opn Go.Proofs.Ytebokjjeeedmjaa.stm Go.Proofs.Ytebokjjeeedmjaa.blk Go.Proofs.Ytebokjjeeedmjaa.sets Go.Proofs.Ytebokjjeeedmjaa.mrk Go.Proofs.Ytebokjjeeedmjaa.prg
theorem own_low {w : World} {base n sz g : Nat} {e : TypeId} {v : Value} {xs : List Value} (h : w.ownsRow base e sz v n xs) (hg : g < base) : v.ownBlock = none ∨ v.ownBlock ≠ some g := by
  cases hv : v.ownBlock with
  | none => exact .inl rfl
  | some q => right; intro e2; have := (h.lt q hv).1; have := Option.some.inj e2; omega
theorem own_high {v : Value} {g : Nat} (h : ∀ q, v.ownBlock = some q → q < g) : v.ownBlock = none ∨ v.ownBlock ≠ some g := by
  cases hv : v.ownBlock with
  | none => exact .inl rfl
  | some q => right; intro e2; have := h q hv; have := Option.some.inj e2; omega
theorem own_apart {w : World} {base n sz b : Nat} {e : TypeId} {u v : Value} {xs : List Value} (hv : ∀ q, v.ownBlock = some q → q < b) (h : w.ownsRow base e sz u n xs) (hb : b ≤ base) : v.ownBlock = none ∨ v.ownBlock ≠ u.ownBlock := by
  cases hq : v.ownBlock with
  | none => exact .inl rfl
  | some q =>
    right; intro e2
    have := hv q hq
    have := (h.lt q e2.symm).1
    omega
theorem is_ex (p : Nat → Prop) : ∃ f, Is f p := by
  classical exact ⟨fun v => decide (p v), fun v _ => decide_eq_true_iff⟩
theorem eqtask_nn (t : Tk) (a a' : Option Addr) (n n' cap cap' : Nat) (w : World) (hn : (n : Int) ≤ 1048576) (h1 : StRow w a n t.b) (h2 : StRow w a' n' t.b) :
    Calls Try.prog 19 #[tkV a n cap t, tkV a' n' cap' t] w (BelB w true) := by
  obtain rfl : n = n' := by have := h1.1; have := h2.1; omega
  exact eqtask_any t a a' n cap cap' w hn h1 h2
theorem kept8 {w w' : World} {a b : Nat} {x0 x1 x2 x3 y0 y1 y2 y3 : Value} (hb : Below w.heap.size w w') (ha : a < w.heap.size) (hb2 : b < w.heap.size)
    (h : w.cell? ⟨a, 0, none⟩ = some x0 ∧ w.cell? ⟨a, 1, none⟩ = some x1 ∧ w.cell? ⟨a, 2, none⟩ = some x2 ∧ w.cell? ⟨a, 3, none⟩ = some x3 ∧ w.cell? ⟨b, 0, none⟩ = some y0 ∧ w.cell? ⟨b, 1, none⟩ = some y1 ∧ w.cell? ⟨b, 2, none⟩ = some y2 ∧ w.cell? ⟨b, 3, none⟩ = some y3) :
    w'.cell? ⟨a, 0, none⟩ = some x0 ∧ w'.cell? ⟨a, 1, none⟩ = some x1 ∧ w'.cell? ⟨a, 2, none⟩ = some x2 ∧ w'.cell? ⟨a, 3, none⟩ = some x3 ∧ w'.cell? ⟨b, 0, none⟩ = some y0 ∧ w'.cell? ⟨b, 1, none⟩ = some y1 ∧ w'.cell? ⟨b, 2, none⟩ = some y2 ∧ w'.cell? ⟨b, 3, none⟩ = some y3 := by
  have e : ∀ (g o : Nat), g < w.heap.size → w'.cell? ⟨g, o, none⟩ = w.cell? ⟨g, o, none⟩ := fun g o hg => hb.cell (p := ⟨g, o, none⟩) hg
  rw [e a 0 ha, e a 1 ha, e a 2 ha, e a 3 ha, e b 0 hb2, e b 1 hb2, e b 2 hb2, e b 3 hb2]
  exact h
set_option maxHeartbeats 8000000 in
set_option maxRecDepth 100000 in
theorem walk (a0 : Value) (w : World) (w0 : IsTaskV w a0) :
    Calls Try.prog 4 #[a0] w fun e w' => e = .returned (.bool true) ∧ Below w.heap.size w w' := by
  obtain ⟨ab, nb, cb, t, rfl, hlm, hS⟩ := w0
  have hlen := hS.1
  have HSW := Lib.hid hS
  have H0 := Lib.hid (And.intro (Box.new w #[.slice ab nb cb, .int .i64 t.o, .int .i64 t.x, .int .i64 t.y] 43) (below_new w (.cells #[.slice ab nb cb, .int .i64 t.o, .int .i64 t.x, .int .i64 t.y] 43)))
  clear hS
  go_enter Try.func4, Try.ntmps4
  go_wp2_with (first
    | (refine wpList_load_row rfl 43 _ rfl w.heap.size rfl _ _ _ _ H0.out.1 Try.underlying43 rfl (by kernel_rfl) ?_)
    | (go_at_call 15; (with_reducible refine (sztask_any t ab nb cb 1048576 hlm (by omega) (by omega) hlen _).mono ?_); rintro e w1 ⟨r, rfl, hr1, hr2, hr3, hb1⟩; refine Hid.out ?_))
  have H1 := Lib.hid (And.intro (H0.out.1.below hb1) (below_then H0.out.2 hb1))
  clear hb1
  by_cases hr : r < 0
  · clear hr3
    refine Lib.hid ?_
    go_wp2
    go_ret
    exact ⟨rfl, H1.out.2⟩
  · have hn : (nb : Int) ≤ 1048576 := by have := hr3.out (by omega); omega
    clear hr3 hr1 hr2
    obtain ⟨f, hf⟩ := is_ex (LogP t)
    obtain ⟨M, hM⟩ : ∃ M, lst f 8 = M := ⟨_, rfl⟩
    have hM8 : M.length ≤ 8 := by rw [← hM]; exact lst_len f 8
    have HSP := Lib.hid (show ∀ (w' : World) (a : Option Addr) (n c : Nat), StRow w' a n t.b → (n : Int) ≤ 1048576 → Calls Try.prog 16 #[tkV a n c t] w' (NewInts w' M) from fun w' a n c h h2 => by rw [← hM]; exact spec_mustlog a n c t h2 w' h f hf)
    have HIP := Lib.hid (show ∀ (w' : World) (a : Option Addr) (n c : Nat), StRow w' a n t.b → (n : Int) ≤ 1048576 → n ≤ c → Calls Try.prog 10 #[tkV a n c t] w' (NewInts w' M) from fun w' a n c h h2 h3 => by rw [← hM]; exact impl_mustlog a n c t h2 h3 w' h f hf)
    clear hM hf hlm
    refine Lib.hid ?_
    go_wp2_with (first
      | (refine wpList_load_row rfl 43 _ rfl w.heap.size rfl _ _ _ _ H1.out.1 Try.underlying43 rfl (by kernel_rfl) ?_)
      | (go_at_call 17; (with_reducible refine (totask_any t ab nb cb _ hn (HSW.out.below H1.out.2)).mono ?_); rintro e w2 ⟨g2, n2, rfl, hg2, hs2, hb2⟩; refine Hid.out ?_))
    have hn2 : (n2 : Int) ≤ 1048576 := by have := hs2.out.1; omega
    have H2 := Lib.hid (And.intro (H1.out.1.below hb2) (And.intro (below_then H1.out.2 hb2) hs2.out))
    clear hs2 hb2 hg2
    refine Lib.hid ?_
    go_wp2_with (go_at_call 16; (with_reducible refine (HSP.out _ _ _ _ H2.out.2.2 hn2).mono ?_); rintro e w3 ⟨ad3, n3, cap3, rfl, ho3, hb3⟩; refine Hid.out ?_)
    have hn8 : (n3 : Int) ≤ 8 := by have := own_len ho3; omega
    have HHI := Lib.hid (fun q hq => (ho3.lt q hq).2)
    have H3 := Lib.hid (And.intro ho3 (And.intro (H2.out.1.below hb3) (below_then H2.out.2.1 hb3)))
    clear ho3 hb3
    refine Lib.hid ?_
    go_wp2_with (first
      | (refine wpList_load_row rfl 43 _ rfl w.heap.size rfl _ _ _ _ H3.out.2.1 Try.underlying43 rfl (by kernel_rfl) ?_)
      | (go_at_call 17; (with_reducible refine (totask_box t ab nb cb _ hn (HSW.out.below H3.out.2.2)).mono ?_); rintro e w4 ⟨g4, n4, rfl, hg4, hs4, hb4⟩; refine Hid.out ?_))
    have hn4 : (n4 : Int) ≤ 1048576 := by have := hs4.out.1; omega
    have hg4s := hs4.out.2.lt
    have hw3 := H3.out.2.1.lt
    have hs34 := hb4.size
    obtain ⟨W4, hW4⟩ : ∃ W4, w4.alloc (.cells zeroTk 33) = W4 := ⟨_, rfl⟩
    have hbn : Below w4.heap.size w4 W4 := by rw [← hW4]; exact below_new w4 _
    have hB4 := below_then hb4 hbn
    have HZ4 := Lib.hid (show Box w4.heap.size zeroTk 33 W4 by rw [← hW4]; exact Box.new w4 _ _)
    have H4 := Lib.hid (And.intro (H3.out.1.kept (grown_below hB4 none) (by cases ad3 <;> simp [Value.ownBlock])) (And.intro (H3.out.2.1.below hB4) (And.intro (below_then H3.out.2.2 hB4) (And.intro hs4.out.1 (hs4.out.2.below hbn)))))
    clear hs4 hb4 hbn hB4
    refine Lib.hid ?_
    go_wp2_with ((refine wpList_store_box rfl 33 _ _ rfl w4.heap.size _ _ HZ4.out #[.slice (some ⟨g4, 0, none⟩) n4 n4, .int .i64 t.o, .int .i64 t.x, .int .i64 t.y] rfl rfl rfl (by kernel_rfl) (by simp [Value.oneCell']) ?_); intro w5 hx5 hg5; refine Hid.out ?_)
    have H5 := Lib.hid (And.intro (H4.out.1.kept hg5 (own_high (fun q hq => by have := HHI.out q hq; omega))) (And.intro (H4.out.2.1.grown hg5 (by intro e9; have := Option.some.inj e9; omega)) (And.intro (H4.out.2.2.1.grown hg5 H4.out.2.2.1.size (fun j hj => by cases hj; omega)) (And.intro (H4.out.2.2.2.2.grown hg5 (by intro e9; have := Option.some.inj e9; omega)) hx5))))
    have HST5 := Lib.hid (StRow.of_box' H5.out.2.2.2.1 H4.out.2.2.2.1)
    have h45 : w4.heap.size < w5.heap.size := hx5.lt
    clear hx5 hg5 hW4
    refine Lib.hid ?_
    go_wp2_with (first
      | (refine wpList_load_row rfl 33 _ rfl w4.heap.size rfl _ _ _ _ H5.out.2.2.2.2 Try.underlying33 rfl (by kernel_rfl) ?_)
      | (go_at_call 10; (with_reducible refine (HIP.out _ _ _ _ HST5.out hn4 (Nat.le_refl _)).mono ?_); rintro e w6 ⟨ad6, n6, cap6, rfl, ho6, hb6⟩; refine Hid.out ?_))
    obtain rfl : n6 = n3 := by have h1 := own_len ho6; have h2 := own_len H5.out.1; omega
    have H6 := Lib.hid (And.intro ho6 (And.intro (H5.out.1.kept (grown_below hb6 none) (by cases ad3 <;> simp [Value.ownBlock])) (And.intro (H5.out.2.1.below hb6) (And.intro (below_then H5.out.2.2.1 hb6) (And.intro (H5.out.2.2.2.1.below hb6) (H5.out.2.2.2.2.below hb6))))))
    clear ho6 hb6
    refine Lib.hid ?_
    go_wp2_with (go_at_call 18; refine (eqInts_any _ _ _ _ _ _ M (by omega) (Row.of_own H6.out.1) (Row.of_own H6.out.2.1)).mono ?_; rintro e w7 ⟨rfl, hg⟩; refine Hid.out ?_)
    have hb7 := below_grown hg
    have H7 := Lib.hid (And.intro (H6.out.1.kept hg (by cases ad6 <;> simp [Value.ownBlock])) (And.intro (H6.out.2.1.kept hg (by cases ad3 <;> simp [Value.ownBlock])) (And.intro (H6.out.2.2.1.below hb7) (And.intro (below_then H6.out.2.2.2.1 hb7) (And.intro (H6.out.2.2.2.2.1.below hb7) (H6.out.2.2.2.2.2.below hb7))))))
    clear hg hb7
    have HD := Lib.hid (show Below w7.heap.size w7 w7.drew from Below.drew (Below.refl _ w7))
    have HRd := Lib.hid (below_then H7.out.2.2.2.1 HD.out)
    have HB3 := Lib.hid (H7.out.2.2.1.below HD.out)
    have HB7 := Lib.hid (H7.out.2.2.2.2.2.below HD.out)
    have c8 : w7.drew.cell? ⟨w.heap.size, 0, none⟩ = some (.slice ab nb cb) ∧ w7.drew.cell? ⟨w.heap.size, 1, none⟩ = some (.int .i64 t.o) ∧ w7.drew.cell? ⟨w.heap.size, 2, none⟩ = some (.int .i64 t.x) ∧ w7.drew.cell? ⟨w.heap.size, 3, none⟩ = some (.int .i64 t.y) ∧ w7.drew.cell? ⟨w4.heap.size, 0, none⟩ = some (.slice (some ⟨g4, 0, none⟩) n4 n4) ∧ w7.drew.cell? ⟨w4.heap.size, 1, none⟩ = some (.int .i64 t.o) ∧ w7.drew.cell? ⟨w4.heap.size, 2, none⟩ = some (.int .i64 t.x) ∧ w7.drew.cell? ⟨w4.heap.size, 3, none⟩ = some (.int .i64 t.y) := ⟨HB3.out.cell 0, HB3.out.cell 1, HB3.out.cell 2, HB3.out.cell 3, HB7.out.cell 0, HB7.out.cell 1, HB7.out.cell 2, HB7.out.cell 3⟩
    have l8 : w.heap.size < w7.drew.heap.size := HB3.out.lt
    have m8 : w4.heap.size < w7.drew.heap.size := HB7.out.lt
    have HSR := Lib.hid (HSW.out.below HRd.out)
    have HST8 := Lib.hid (StRow.of_box' (H7.out.2.2.2.2.1.below HD.out) H4.out.2.2.2.1)
    refine Lib.hid ?_
    go_wp2
    go_region_held3 (fun w' => w'.cell? ⟨w.heap.size, 0, none⟩ = some (.slice ab nb cb) ∧ w'.cell? ⟨w.heap.size, 1, none⟩ = some (.int .i64 t.o) ∧ w'.cell? ⟨w.heap.size, 2, none⟩ = some (.int .i64 t.x) ∧ w'.cell? ⟨w.heap.size, 3, none⟩ = some (.int .i64 t.y) ∧ w'.cell? ⟨w4.heap.size, 0, none⟩ = some (.slice (some ⟨g4, 0, none⟩) n4 n4) ∧ w'.cell? ⟨w4.heap.size, 1, none⟩ = some (.int .i64 t.o) ∧ w'.cell? ⟨w4.heap.size, 2, none⟩ = some (.int .i64 t.x) ∧ w'.cell? ⟨w4.heap.size, 3, none⟩ = some (.int .i64 t.y))
      (first
        | (with_reducible exact c8)
        | (with_reducible exact kept8 hb10 (Nat.lt_of_lt_of_le l8 hb9.size) (Nat.lt_of_lt_of_le m8 hb9.size) (kept8 hb9 l8 m8 c8))
        | (with_reducible exact kept8 hb9 l8 m8 c8))
      (first
        | (go_at_call 17; (with_reducible refine (totask_any t ab nb cb _ hn HSR.out).mono ?_); rintro e w9 ⟨g9, n9, rfl, hg9, hs9, hb9⟩)
        | (go_at_call 19; (with_reducible refine (eqtask_nn t (some ⟨g4, 0, none⟩) (some ⟨g9, 0, none⟩) n4 n9 n4 n9 _ hn4 (HST8.out.below hb9) hs9.out).mono ?_); rintro e w10 ⟨rfl, hb10⟩))
    all_goals
      have hb79 := below_then (below_then HD.out hb9) hb10
      have H10 := Lib.hid (And.intro (H7.out.1.kept (grown_below hb79 none) (by cases ad6 <;> simp [Value.ownBlock])) (And.intro (H7.out.2.1.kept (grown_below hb79 none) (by cases ad3 <;> simp [Value.ownBlock])) (And.intro (H7.out.2.2.1.below hb79) (And.intro (below_then H7.out.2.2.2.1 hb79) (And.intro (H7.out.2.2.2.2.1.below hb79) (H7.out.2.2.2.2.2.below hb79))))))
      have hsz : n4 * 6 ≤ (stsC t.b).toArray.size := by have := H4.out.2.2.2.1; simp [stsC_len]; omega
      have HMK := Lib.hid (marktask_any w10 g4 n4 n4 t _ _ H10.out.2.2.2.2.1 hsz 1 (by omega) (by omega) (by omega))
      have hkn : ¬ (1 + 6 * (n4 : Int)) < 0 := by omega
      clear hb79 hb9 hb10 hs9 hg9 c8 l8 m8
      refine Lib.hid ?_
      go_wp2_with (first
        | (refine wpList_load_row rfl 33 _ rfl w4.heap.size rfl _ _ _ _ H10.out.2.2.2.2.2 Try.underlying33 rfl (by kernel_rfl) ?_)
        | (go_at_call 20; (with_reducible refine HMK.out.mono ?_); rintro e w11 ⟨rfl, hg11⟩; refine Hid.out ?_))
      have H11 := Lib.hid (And.intro (H10.out.1.kept hg11 (own_low H10.out.1 (by omega))) (And.intro (H10.out.2.1.kept hg11 (own_high (fun q hq => by have := HHI.out q hq; omega))) (And.intro (H10.out.2.2.1.grown hg11 (by intro e9; have := Option.some.inj e9; omega)) (H10.out.2.2.2.1.grown hg11 H10.out.2.2.2.1.size (fun q hq => by cases hq; omega)))))
      clear hg11
      refine Lib.hid ?_
      go_wp2_with (go_at_call 18; refine (eqInts_any _ _ _ _ _ _ M (by omega) (Row.of_own H11.out.1) (Row.of_own H11.out.2.1)).mono ?_; rintro e w12 ⟨rfl, hg⟩; refine Hid.out ?_)
      have H12 := Lib.hid (And.intro (H11.out.1.kept hg (by cases ad6 <;> simp [Value.ownBlock])) (And.intro (H11.out.2.1.kept hg (by cases ad3 <;> simp [Value.ownBlock])) (And.intro (H11.out.2.2.1.below (below_grown hg)) (below_then H11.out.2.2.2 (below_grown hg)))))
      clear hg
      refine Lib.hid ?_
      go_wp2_with (go_at_call 21; refine (markInts_any _ _ _ _ _ 1 _ (by omega) (by omega) H12.out.1).mono ?_; rintro e w13 ⟨rfl, hg13, L6, ho13, hM13⟩; refine Hid.out ?_)
      have H13 := Lib.hid (And.intro ho13 (And.intro (H12.out.2.1.kept hg13 (own_apart HHI.out H12.out.1 (by omega))) (And.intro (H12.out.2.2.1.grown hg13 (fun e9 => by have := (H12.out.1.lt _ e9.symm).1; omega)) (H12.out.2.2.2.grown hg13 H12.out.2.2.2.size (fun q hq => by have := (H12.out.1.lt q hq).1; omega)))))
      have HM13 := Lib.hid hM13
      clear ho13 hg13 hM13
      refine Lib.hid ?_
      go_wp2_with (go_at_call 22; refine (heldInts_any _ _ _ _ 1 _ (by omega) (by omega) (Row.of_own H13.out.1) HM13.out).mono ?_; rintro e w14 ⟨rfl, hg⟩; refine Hid.out ?_)
      have H14 := Lib.hid (And.intro (H13.out.1.kept hg (by cases ad6 <;> simp [Value.ownBlock])) (And.intro (H13.out.2.1.kept hg (by cases ad3 <;> simp [Value.ownBlock])) (And.intro (H13.out.2.2.1.below (below_grown hg)) (below_then H13.out.2.2.2 (below_grown hg)))))
      clear hg
      refine Lib.hid ?_
      go_wp2_with (first
        | (refine wpList_load_row rfl 43 _ rfl w.heap.size rfl _ _ _ _ H14.out.2.2.1 Try.underlying43 rfl (by kernel_rfl) ?_)
        | (go_at_call 17; (with_reducible refine (totask_any t ab nb cb _ hn (HSW.out.below H14.out.2.2.2)).mono ?_); rintro e w15 ⟨g15, n15, rfl, hg15, hs15, hb15⟩; refine Hid.out ?_))
      have hn15 : (n15 : Int) ≤ 1048576 := by have := hs15.out.1; omega
      have H15 := Lib.hid (And.intro (H14.out.1.kept (grown_below hb15 none) (by cases ad6 <;> simp [Value.ownBlock])) (And.intro (H14.out.2.1.kept (grown_below hb15 none) (by cases ad3 <;> simp [Value.ownBlock])) (And.intro hs15.out (below_then H14.out.2.2.2 hb15))))
      clear hs15 hb15 hg15
      refine Lib.hid ?_
      go_wp2_with (go_at_call 10; (with_reducible refine (HIP.out _ _ _ _ H15.out.2.2.1 hn15 (Nat.le_refl _)).mono ?_); rintro e w16 ⟨ad16, n16, cap16, rfl, ho16, hb16⟩; refine Hid.out ?_)
      obtain rfl : n16 = n6 := by have h1 := own_len ho16; have h2 := own_len H15.out.2.1; omega
      have H16 := Lib.hid (And.intro (H15.out.1.kept (grown_below hb16 none) (by cases ad6 <;> simp [Value.ownBlock])) (And.intro (H15.out.2.1.kept (grown_below hb16 none) (by cases ad3 <;> simp [Value.ownBlock])) (And.intro ho16 (below_then H15.out.2.2.2 hb16))))
      clear ho16 hb16
      refine Lib.hid ?_
      go_wp2_with (go_at_call 18; refine (eqInts_any _ _ _ _ _ _ M (by omega) (Row.of_own H16.out.2.2.1) (Row.of_own H16.out.2.1)).mono ?_; rintro e w17 ⟨rfl, hg⟩; refine Hid.out ?_)
      have H17 := Lib.hid (And.intro (H16.out.1.kept hg (by cases ad6 <;> simp [Value.ownBlock])) (below_then H16.out.2.2.2 (below_grown hg)))
      clear hg
      refine Lib.hid ?_
      go_wp2_with (go_at_call 22; refine (heldInts_any _ _ _ _ 1 _ (by omega) (by omega) (Row.of_own H17.out.1) HM13.out).mono ?_; rintro e w18 ⟨rfl, hg18⟩)
      go_ret
      exact ⟨rfl, below_then H17.out.2 (below_grown hg18)⟩

/-! ### THE ROW's STEP -/
set_option maxRecDepth 100000 in
theorem lifted (os : Os) (started : os.Started) (H : Type) (enc : TypeId × Value → H) :
    ReturnsInHanded {} Try.checked os 4 .any (Rows.fnExactMustLogSpec.pre6 enc Try.prog Try.f4 Rows.fnExactMustLogRow.domain false) (Rows.fnExactMustLogSpec.post enc Try.prog Try.f4 false true false false) := by
  refine returnsInHanded_of_change (C := Try.checked) own started (by kernel_rfl) Try.func4
    (ChangeSpec.witness6 (enc := enc) (C := Try.checked) false ⟨#[], #[.agg #[.slice none 0 0, .int .i64 0, .int .i64 0, .int .i64 0]], []⟩ 8 (by kernel_rfl) (by kernel_rfl) (by kernel_rfl) (by kernel_rfl)) ?_
  intro W base args ds gs before hval0 hW hcnd _
  have hval : ∀ (j : Nat) t v, Try.f4.params[j]? = some t → args[j]? = some v → Value.okWide Try.prog W .any base t v := hval0
  have hW' := hW
  obtain ⟨p, q, hA0, hV, rfl, hfz, hnd⟩ := hW
  have hA : DataW.TrodAll enc Try.prog W 0 (fun _ => true) true Try.f4.params.toList args.toList ds p := hA0
  rw [Try.params4] at hA hval
  obtain ⟨v0, vs0, d0, ds0, p0, q0, hargs, rfl, rfl, h0, r0⟩ := trodAll_cons hA
  obtain ⟨rfl, rfl, rfl⟩ := trodAll_nil r0
  obtain rfl : args = #[v0] := by cases args; simp_all
  obtain ⟨rfl, rfl⟩ := trodVars_none hV
  have k0 := h0
  have lt0 : ∀ x ∈ p0, x.block < W.heap.size := by obtain ⟨m, hm⟩ := k0; exact DataW.trod_lt m _ _ _ hm
  have w0 : IsTaskV W v0 := open_Task (hval 0 43 v0 rfl rfl) h0
  clear hA0 hval0
  refine (walk v0 W w0).mono fun e W' ⟨he, bel⟩ => ?_
  subst he
  exact ⟨_, rfl, _, _, _, [], _, [], hW', trodAll_mk1 (shut_bool Try.underlying4 _), (trodAll_cons_mk (Below.trod laidOut (by kernel_rfl) (of_decide_eq_true (by kernel_rfl)) k0 bel lt0) trodAll_mk0), rfl, bel.frame _, fun h => by cases h⟩

theorem over : Rows.fnExactMustLogRow.holds Try.pinned (OpenSpec.ofChange Rows.fnExactMustLogSpec) :=
  OpenClaim.holds_of_wide 4 Try.f4 rfl rfl rfl rfl rfl rfl rfl ⟨rfl, rfl, rfl, rfl, rfl⟩ rfl rfl rfl rfl rfl (by kernel_rfl) Try.func4 (by kernel_rfl)
    (of_decide_eq_true (by kernel_rfl)) (by unfold Func.isWrapper; first | (rw [if_pos (by decide +kernel)]; kernel_rfl) | (rw [if_neg (by decide +kernel)]; exact ⟨rfl, rfl⟩))
    (fun os started H enc _ => lifted os started H enc)

/-- ████ THE STATEMENT ████ -/
theorem proved : Rows.FnExactMustLogSaid := over
#print axioms proved
end Go.Proofs.Ytebokjjeeedmjaa.fnExactMustLog
