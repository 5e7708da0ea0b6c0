/- For every task and every number FnExactWriteCount returns true and leaves the task as it was; no condition. -/
import Derived.Test.YtodlbbojjnkneaaRows
import Derived.WalkKit
import Derived.ProofKit
import Derived.OpenShut
import Derived.ShutString
import Derived.ChangeOld
import Derived.Below
import Derived.Test.YtodlbbojjnkneaaGHub42
import Derived.Test.YtodlbbojjnkneaaGHub43
import Derived.Test.YtodlbbojjnkneaaGHub20
import Derived.Test.YtodlbbojjnkneaaGHub49
import Derived.Test.YtodlbbojjnkneaaGHub26
import Derived.Test.YtodlbbojjnkneaaGHub45
import Derived.Test.YtodlbbojjnkneaaGHub9
import Derived.Deep.RegionHeld3
namespace Go.Proofs.Ytodlbbojjnkneaa.fnExactWriteCount
open Go.ChangeShapes Go.WideShapes Go.ChangeAt Go.RowKit
open Go.ChangeMaps (open_string shut_string)
set_option linter.unusedVariables false

theorem own : ownKnob Try.prog.godebug = none := by kernel_rfl
theorem laidOut : laidOutB Try.prog = true := by kernel_rfl

open Go.Proofs.Ytodlbbojjnkneaa.row Go.Proofs.Ytodlbbojjnkneaa.val Go.Proofs.Ytodlbbojjnkneaa.expr Go.Proofs.Ytodlbbojjnkneaa.opn Go.Proofs.Ytodlbbojjnkneaa.stm Go.Proofs.Ytodlbbojjnkneaa.blk Go.Proofs.Ytodlbbojjnkneaa.sets Go.Proofs.Ytodlbbojjnkneaa.prg Go.Proofs.Ytodlbbojjnkneaa.cst
theorem eqtask_nn (t : Tk) (a a' : Option Addr) (n n' cap cap' : Nat) (w : World) (hn : (n : Int) ≤ 1048576) (h1 : StRow w a n t.b) (h2 : StRow w a' n' t.b) :
    Calls Try.prog 17 #[tkV a n cap t, tkV a' n' cap' t] w (BelB w true) := by
  obtain rfl : n = n' := by have := h1.1; have := h2.1; omega
  exact eqtask_any t a a' n cap cap' w hn h1 h2
theorem kept8 {w w' : World} {a b : Nat} {x0 x1 x2 x3 y0 y1 y2 y3 : Value} (hb : Below w.heap.size w w') (ha : a < w.heap.size) (hb2 : b < w.heap.size)
    (h : w.cell? ⟨a, 0, none⟩ = some x0 ∧ w.cell? ⟨a, 1, none⟩ = some x1 ∧ w.cell? ⟨a, 2, none⟩ = some x2 ∧ w.cell? ⟨a, 3, none⟩ = some x3 ∧ w.cell? ⟨b, 0, none⟩ = some y0 ∧ w.cell? ⟨b, 1, none⟩ = some y1 ∧ w.cell? ⟨b, 2, none⟩ = some y2 ∧ w.cell? ⟨b, 3, none⟩ = some y3) :
    w'.cell? ⟨a, 0, none⟩ = some x0 ∧ w'.cell? ⟨a, 1, none⟩ = some x1 ∧ w'.cell? ⟨a, 2, none⟩ = some x2 ∧ w'.cell? ⟨a, 3, none⟩ = some x3 ∧ w'.cell? ⟨b, 0, none⟩ = some y0 ∧ w'.cell? ⟨b, 1, none⟩ = some y1 ∧ w'.cell? ⟨b, 2, none⟩ = some y2 ∧ w'.cell? ⟨b, 3, none⟩ = some y3 := by
  have e : ∀ (g o : Nat), g < w.heap.size → w'.cell? ⟨g, o, none⟩ = w.cell? ⟨g, o, none⟩ := fun g o hg => hb.cell (p := ⟨g, o, none⟩) hg
  rw [e a 0 ha, e a 1 ha, e a 2 ha, e a 3 ha, e b 0 hb2, e b 1 hb2, e b 2 hb2, e b 3 hb2]
  exact h
set_option maxHeartbeats 8000000 in
set_option maxRecDepth 100000 in
theorem walk (a0 : Value) (a1 : Int) (w : World) (w0 : IsTaskV w a0) (_ : (Lit.int .i64 a1).wf = true) :
    Calls Try.prog 4 #[a0, .int .i64 a1] w fun e w' => e = .returned (.bool true) ∧ Below w.heap.size w w' := by
  obtain ⟨ab, nb, cb, t, rfl, hlm, hS⟩ := w0
  have hlen := hS.1
  have HSW := Lib.hid hS
  have H0 := Lib.hid (And.intro (Box.new w #[.slice ab nb cb, .int .i64 t.o, .int .i64 t.x, .int .i64 t.y] 39) (below_new w (.cells #[.slice ab nb cb, .int .i64 t.o, .int .i64 t.x, .int .i64 t.y] 39)))
  clear hS
  go_enter Try.func4, Try.ntmps4
  go_wp2_with (first
    | (refine wpList_load_row rfl 39 _ rfl w.heap.size rfl _ _ _ _ H0.out.1 Try.underlying39 rfl (by kernel_rfl) ?_)
    | (go_at_call 14; (with_reducible refine (sztask_any t ab nb cb 1048576 hlm (by omega) (by omega) hlen _).mono ?_); rintro e w1 ⟨r, rfl, hr1, hr2, hr3, hb1⟩; refine Hid.out ?_))
  have H1 := Lib.hid (And.intro (H0.out.1.below hb1) (below_then H0.out.2 hb1))
  clear hb1
  by_cases hr : r < 0
  · clear hr3
    refine Lib.hid ?_
    go_wp2
    go_ret
    exact ⟨rfl, H1.out.2⟩
  · have hn : (nb : Int) ≤ 1048576 := by have := hr3.out (by omega); omega
    clear hr3 hr1 hr2
    obtain ⟨R, hR⟩ := wr_ex t a1
    have HSP := Lib.hid (show ∀ (w' : World) (a : Option Addr) (n c : Nat), StRow w' a n t.b → (n : Int) ≤ 1048576 → Calls Try.prog 15 #[tkV a n c t, .int .i64 a1] w' (BelI w' R) from fun w' a n c h h2 => spec_writecount a n c t h2 w' h a1 R hR)
    have HIP := Lib.hid (show ∀ (w' : World) (a : Option Addr) (n c : Nat), StRow w' a n t.b → (n : Int) ≤ 1048576 → n ≤ c → Calls Try.prog 9 #[tkV a n c t, .int .i64 a1] w' (BelI w' R) from fun w' a n c h h2 h3 => impl_writecount a n c t h2 h3 w' h a1 R hR)
    clear hR hlm
    refine Lib.hid ?_
    go_wp2_with (first
      | (refine wpList_load_row rfl 39 _ rfl w.heap.size rfl _ _ _ _ H1.out.1 Try.underlying39 rfl (by kernel_rfl) ?_)
      | (go_at_call 16; (with_reducible refine (totask_any t ab nb cb _ hn (HSW.out.below H1.out.2)).mono ?_); rintro e w2 ⟨g2, n2, rfl, hg2, hs2, hb2⟩; refine Hid.out ?_))
    have hn2 : (n2 : Int) ≤ 1048576 := by have := hs2.out.1; omega
    have H2 := Lib.hid (And.intro (H1.out.1.below hb2) (And.intro (below_then H1.out.2 hb2) hs2.out))
    clear hs2 hb2 hg2
    refine Lib.hid ?_
    go_wp2_with (go_at_call 15; (with_reducible refine (HSP.out _ _ _ _ H2.out.2.2 hn2).mono ?_); rintro e w3 ⟨rfl, hb3⟩; refine Hid.out ?_)
    have H3 := Lib.hid (And.intro (H2.out.1.below hb3) (below_then H2.out.2.1 hb3))
    clear hb3
    refine Lib.hid ?_
    go_wp2_with (first
      | (refine wpList_load_row rfl 39 _ rfl w.heap.size rfl _ _ _ _ H3.out.1 Try.underlying39 rfl (by kernel_rfl) ?_)
      | (go_at_call 16; (with_reducible refine (totask_any t ab nb cb _ hn (HSW.out.below H3.out.2)).mono ?_); rintro e w4 ⟨g4, n4, rfl, hg4, hs4, hb4⟩; refine Hid.out ?_))
    have hn4 : (n4 : Int) ≤ 1048576 := by have := hs4.out.1; omega
    obtain ⟨W4, hW4⟩ : ∃ W4, w4.alloc (.cells zeroTk 28) = W4 := ⟨_, rfl⟩
    have hbn : Below w4.heap.size w4 W4 := by rw [← hW4]; exact below_new w4 _
    have HZ4 := Lib.hid (show Box w4.heap.size zeroTk 28 W4 by rw [← hW4]; exact Box.new w4 _ _)
    have H4 := Lib.hid (And.intro (H3.out.1.below hb4) (And.intro (below_then H3.out.2 hb4) hs4.out))
    have HBN := Lib.hid hbn
    have hw34 : w.heap.size < w4.heap.size := Nat.lt_of_lt_of_le H3.out.1.lt hb4.size
    clear hs4 hb4 hbn
    refine Lib.hid ?_
    go_wp2_with ((refine wpList_store_box rfl 28 _ _ rfl w4.heap.size _ _ HZ4.out #[.slice (some ⟨g4, 0, none⟩) n4 n4, .int .i64 t.o, .int .i64 t.x, .int .i64 t.y] rfl rfl rfl (by kernel_rfl) (by simp [Value.oneCell']) ?_); intro w5 hx5 hg5; refine Hid.out ?_)
    have hb5 : Below w4.heap.size w4 w5 := HBN.out.grown hg5 HBN.out.size (fun j hj => by cases hj; exact Nat.le_refl _)
    have H5 := Lib.hid (And.intro (H4.out.1.below hb5) (And.intro (below_then H4.out.2.1 hb5) (And.intro (H4.out.2.2.below hb5) hx5)))
    clear hx5 hg5 hb5 hW4
    refine Lib.hid ?_
    go_wp2_with (first
      | (refine wpList_load_row rfl 28 _ rfl w4.heap.size rfl _ _ _ _ H5.out.2.2.2 Try.underlying28 rfl (by kernel_rfl) ?_)
      | (go_at_call 9; (with_reducible refine (HIP.out _ _ _ _ H5.out.2.2.1 hn4 (Nat.le_refl _)).mono ?_); rintro e w7 ⟨rfl, hb7⟩; refine Hid.out ?_))
    have H7 := Lib.hid (And.intro (H5.out.1.below hb7) (And.intro (below_then H5.out.2.1 hb7) (And.intro (H5.out.2.2.1.below hb7) (H5.out.2.2.2.below hb7))))
    clear hb7
    have HD := Lib.hid (show Below w7.heap.size w7 w7.drew from Below.drew (Below.refl _ w7))
    have HRd := Lib.hid (below_then H7.out.2.1 HD.out)
    have HB3 := Lib.hid (H7.out.1.below HD.out)
    have HB7 := Lib.hid (H7.out.2.2.2.below HD.out)
    have c8 : w7.drew.cell? ⟨w.heap.size, 0, none⟩ = some (.slice ab nb cb) ∧ w7.drew.cell? ⟨w.heap.size, 1, none⟩ = some (.int .i64 t.o) ∧ w7.drew.cell? ⟨w.heap.size, 2, none⟩ = some (.int .i64 t.x) ∧ w7.drew.cell? ⟨w.heap.size, 3, none⟩ = some (.int .i64 t.y) ∧ w7.drew.cell? ⟨w4.heap.size, 0, none⟩ = some (.slice (some ⟨g4, 0, none⟩) n4 n4) ∧ w7.drew.cell? ⟨w4.heap.size, 1, none⟩ = some (.int .i64 t.o) ∧ w7.drew.cell? ⟨w4.heap.size, 2, none⟩ = some (.int .i64 t.x) ∧ w7.drew.cell? ⟨w4.heap.size, 3, none⟩ = some (.int .i64 t.y) := ⟨HB3.out.cell 0, HB3.out.cell 1, HB3.out.cell 2, HB3.out.cell 3, HB7.out.cell 0, HB7.out.cell 1, HB7.out.cell 2, HB7.out.cell 3⟩
    have l8 : w.heap.size < w7.drew.heap.size := HB3.out.lt
    have m8 : w4.heap.size < w7.drew.heap.size := HB7.out.lt
    have HSR := Lib.hid (HSW.out.below HRd.out)
    have HST8 := Lib.hid (H7.out.2.2.1.below HD.out)
    refine Lib.hid ?_
    go_wp2
    go_region_held3 (fun w' => w'.cell? ⟨w.heap.size, 0, none⟩ = some (.slice ab nb cb) ∧ w'.cell? ⟨w.heap.size, 1, none⟩ = some (.int .i64 t.o) ∧ w'.cell? ⟨w.heap.size, 2, none⟩ = some (.int .i64 t.x) ∧ w'.cell? ⟨w.heap.size, 3, none⟩ = some (.int .i64 t.y) ∧ w'.cell? ⟨w4.heap.size, 0, none⟩ = some (.slice (some ⟨g4, 0, none⟩) n4 n4) ∧ w'.cell? ⟨w4.heap.size, 1, none⟩ = some (.int .i64 t.o) ∧ w'.cell? ⟨w4.heap.size, 2, none⟩ = some (.int .i64 t.x) ∧ w'.cell? ⟨w4.heap.size, 3, none⟩ = some (.int .i64 t.y))
      (first
        | (with_reducible exact c8)
        | (with_reducible exact kept8 hb10 (Nat.lt_of_lt_of_le l8 hb9.size) (Nat.lt_of_lt_of_le m8 hb9.size) (kept8 hb9 l8 m8 c8))
        | (with_reducible exact kept8 hb9 l8 m8 c8))
      (first
        | (go_at_call 16; (with_reducible refine (totask_any t ab nb cb _ hn HSR.out).mono ?_); rintro e w9 ⟨g9, n9, rfl, hg9, hs9, hb9⟩)
        | (go_at_call 17; (with_reducible refine (eqtask_nn t (some ⟨g4, 0, none⟩) (some ⟨g9, 0, none⟩) n4 n9 n4 n9 _ hn4 (HST8.out.below hb9) hs9.out).mono ?_); rintro e w10 ⟨rfl, hb10⟩))
    all_goals
      have hb79 := below_then (below_then HD.out hb9) hb10
      have H10 := Lib.hid (below_then H7.out.2.1 hb79)
      clear hb79 hb9 hb10 hs9 hg9 c8 l8 m8
      refine Lib.hid ?_
      go_wp2
      go_ret
      exact ⟨rfl, H10.out⟩

/-! ### THE ROW's STEP -/
set_option maxRecDepth 100000 in
theorem lifted (os : Os) (started : os.Started) (H : Type) (enc : TypeId × Value → H) :
    ReturnsInHanded {} Try.checked os 4 .any (Rows.fnExactWriteCountSpec.pre6 enc Try.prog Try.f4 Rows.fnExactWriteCountRow.domain false) (Rows.fnExactWriteCountSpec.post enc Try.prog Try.f4 false true false false) := by
  refine returnsInHanded_of_change (C := Try.checked) own started (by kernel_rfl) Try.func4
    (ChangeSpec.witness6 (enc := enc) (C := Try.checked) false ⟨#[], #[.agg #[.slice none 0 0, .int .i64 0, .int .i64 0, .int .i64 0], .int .i64 0], []⟩ 8 (by kernel_rfl) (by kernel_rfl) (by kernel_rfl) (by kernel_rfl)) ?_
  intro W base args ds gs before hval0 hW hcnd _
  have hval : ∀ (j : Nat) t v, Try.f4.params[j]? = some t → args[j]? = some v → Value.okWide Try.prog W .any base t v := hval0
  have hW' := hW
  obtain ⟨p, q, hA0, hV, rfl, hfz, hnd⟩ := hW
  have hA : DataW.TrodAll enc Try.prog W 0 (fun _ => true) true Try.f4.params.toList args.toList ds p := hA0
  rw [Try.params4] at hA hval
  obtain ⟨v0, vs0, d0, ds0, p0, q0, hargs, rfl, rfl, h0, r0⟩ := trodAll_cons hA
  obtain ⟨v1, vs1, d1, ds1, p1, q1, rfl, rfl, rfl, h1, r1⟩ := trodAll_cons r0
  obtain ⟨rfl, rfl, rfl⟩ := trodAll_nil r1
  obtain rfl : args = #[v0, v1] := by cases args; simp_all
  obtain ⟨rfl, rfl⟩ := trodVars_none hV
  have k0 := h0
  have lt0 : ∀ x ∈ p0, x.block < W.heap.size := by obtain ⟨m, hm⟩ := k0; exact DataW.trod_lt m _ _ _ hm
  have w0 : IsTaskV W v0 := open_Task (hval 0 39 v0 rfl rfl) h0
  obtain ⟨a1, rfl, rfl, rfl, w1⟩ := open_int Try.underlying3 (hval 1 3 v1 rfl rfl) h1
  clear hA0 hval0
  refine (walk v0 a1 W w0 w1).mono fun e W' ⟨he, bel⟩ => ?_
  subst he
  exact ⟨_, rfl, _, _, _, [], _, [], hW', trodAll_mk1 (shut_bool Try.underlying4 _), (trodAll_cons_mk (Below.trod laidOut (by kernel_rfl) (of_decide_eq_true (by kernel_rfl)) k0 bel lt0) (trodAll_cons_mk (shut_int Try.underlying3 w1) trodAll_mk0)), rfl, bel.frame _, fun h => by cases h⟩

theorem over : Rows.fnExactWriteCountRow.holds Try.pinned (OpenSpec.ofChange Rows.fnExactWriteCountSpec) :=
  OpenClaim.holds_of_wide 4 Try.f4 rfl rfl rfl rfl rfl rfl rfl ⟨rfl, rfl, rfl, rfl, rfl⟩ rfl rfl rfl rfl rfl (by kernel_rfl) Try.func4 (by kernel_rfl)
    (of_decide_eq_true (by kernel_rfl)) (by unfold Func.isWrapper; first | (rw [if_pos (by decide +kernel)]; kernel_rfl) | (rw [if_neg (by decide +kernel)]; exact ⟨rfl, rfl⟩))
    (fun os started H enc _ => lifted os started H enc)

/-- ████ THE STATEMENT ████ -/
theorem proved : Rows.FnExactWriteCountSaid := over
#print axioms proved
end Go.Proofs.Ytodlbbojjnkneaa.fnExactWriteCount
