/- For every row of numbers and every expression FnExactEvalExpr returns true and leaves the row as it was; no condition. -/
import Derived.Test.YtnpofcalghdaaaaRows
import Derived.WalkKit
import Derived.ProofKit
import Derived.OpenShut
import Derived.ShutString
import Derived.ChangeOld
import Derived.Below
import Derived.Deep.RegionHeld3
import Derived.Test.YtnpofcalghdaaaaEvalC
import Derived.Test.YtnpofcalghdaaaaOpen
import Derived.Laws.Rows
namespace Go.Proofs.Ytnpofcalghdaaaa.fnExactEvalExpr
open Go.ChangeShapes Go.WideShapes Go.ChangeAt Go.RowKit
open Go.ChangeMaps (open_string shut_string)
set_option linter.unusedVariables false

theorem own : ownKnob Try.prog.godebug = none := by kernel_rfl
theorem laidOut : laidOutB Try.prog = true := by kernel_rfl

/-- A row of numbers that came in: nil, or 'cap' cells that hold 'zs', of which the first 'len' are its elements. -/
def IsRow (k : IntKind) (w : World) (a : Option Addr) (len cap : Nat) (zs : List Int) : Prop :=
  (a = none ∧ len = 0 ∧ cap = 0 ∧ zs = []) ∨
  ∃ x, a = some x ∧ len ≤ cap ∧ cap ≤ maxLen ∧ zs.length = cap ∧ (∀ i, i < zs.length → w.cell? (x.add i) = some (.int k (zs.getD i 0))) ∧ ∀ n ∈ zs, (Lit.int k n).wf = true

open Go.Proofs.Ytnpofcalghdaaaa.row Go.Proofs.Ytnpofcalghdaaaa.val Go.Proofs.Ytnpofcalghdaaaa.expr Go.Proofs.Ytnpofcalghdaaaa.opn
theorem row_of {w : World} {a0 : Option Addr} {len0 cap0 : Nat} {z0 : List Int} (w0 : IsRow .i64 w a0 len0 cap0 z0) : Row w a0 len0 (z0.take len0) ∧ len0 ≤ maxLen := by
  rcases w0 with ⟨rfl, rfl, _, rfl⟩ | ⟨x, rfl, hl, hm, hz, hcell, _⟩
  · exact ⟨Row.none_ w, by decide⟩
  · exact ⟨Row.of_ints hl hz hcell, by omega⟩
theorem held3 {w w' : World} {g : Nat} {x y z : Value} (hb : Below w.heap.size w w') (hg : g < w.heap.size) (h : w.cell? ⟨g, 0, none⟩ = some x ∧ w.cell? ⟨g, 1, none⟩ = some y ∧ w.cell? ⟨g, 2, none⟩ = some z) :
    w'.cell? ⟨g, 0, none⟩ = some x ∧ w'.cell? ⟨g, 1, none⟩ = some y ∧ w'.cell? ⟨g, 2, none⟩ = some z :=
  ⟨(hb.cell (p := ⟨g, 0, none⟩) hg).trans h.1, (hb.cell (p := ⟨g, 1, none⟩) hg).trans h.2.1, (hb.cell (p := ⟨g, 2, none⟩) hg).trans h.2.2⟩
theorem Row.drew {w : World} {a : Option Addr} {n : Nat} {L : List Int} (h : Row w a n L) : Row w.drew a n L := h
theorem drew_below {w w' : World} (h : Below w.drew.heap.size w.drew w') : Below w.heap.size w w' := (Below.drew (Below.refl _ w)).trans h
set_option maxHeartbeats 1000000 in
theorem walk (a0 : Option Addr) (len0 cap0 : Nat) (z0 : List Int) (a1 : Value) (w : World) (w0 : IsRow .i64 w a0 len0 cap0 z0) (w1 : IsExpr w a1) :
    Calls Try.prog 5 #[.slice a0 len0 cap0, a1] w fun e w' => e = .returned (.bool true) ∧ Below w.heap.size w w' := by
  obtain ⟨o, a, b, rfl, _, _, _⟩ := w1
  obtain ⟨hR, hm⟩ := row_of w0
  clear w0
  unfold maxLen at hm
  obtain ⟨L, hL⟩ : ∃ L, L = z0.take len0 := ⟨_, rfl⟩
  rw [← hL] at hR
  clear hL
  have hx := Box.new w #[.int .i64 o, .int .i64 a, .int .i64 b] 29
  have hn := below_new w (.cells #[.int .i64 o, .int .i64 a, .int .i64 b] 29)
  by_cases hbig : (1048576 : Int) < len0
  · go_enter Try.func5, Try.ntmps5
    go_wp2
    go_ret
    exact ⟨rfl, hn⟩
  · have hsm : (len0 : Int) ≤ 1048576 := by omega
    have H0 := Lib.hid (And.intro hx (And.intro (hR.below hn) hn))
    clear hR hbig hx hn
    go_enter Try.func5, Try.ntmps5
    have hlt := H0.out.1.lt
    go_wp2
    go_region_held3 (fun w' => w'.cell? ⟨w.heap.size, 0, none⟩ = some (.int .i64 o) ∧ w'.cell? ⟨w.heap.size, 1, none⟩ = some (.int .i64 a) ∧ w'.cell? ⟨w.heap.size, 2, none⟩ = some (.int .i64 b))
      (first | go_keep | (exact held3 (by assumption) (by assumption) (by assumption)))
      (first
        | (go_at_call 11; refine (toInts_any _ _ _ _ L hsm (Row.drew H0.out.2.1)).mono ?_; rintro e w1 ⟨a1, rfl, ho1, hb1⟩; replace hb1 := drew_below hb1; have hl1 := Nat.lt_of_lt_of_le hlt hb1.size)
        | (go_at_call 17; refine (toExpr_any _ _ _ _).mono ?_; rintro e w2 ⟨rfl, hb2⟩; have hl2 := Nat.lt_of_lt_of_le hl1 hb2.size)
        | (go_at_call 16; refine (spec_evalExpr _ _ _ _ L hsm ((Row.of_own ho1).below hb2) _ _ _).mono ?_; rintro e w3 ⟨rfl, hb3⟩))
    refine Hid.out ?_
    have G3 := below_then (below_then hb1 hb2) hb3
    have H3 := Lib.hid (And.intro (H0.out.1.below G3) (And.intro (H0.out.2.1.below G3) (below_then H0.out.2.2 G3)))
    clear ho1 hb1 hb2 hb3 G3 H0 hlt hl1 hl2
    refine Lib.hid ?_
    go_wp2_with (go_at_call 11; refine (toInts_any _ _ _ _ L hsm H3.out.2.1).mono ?_; rintro e w4 ⟨a4, rfl, ho4, hb4⟩; refine Hid.out ?_)
    have H4 := Lib.hid (And.intro (Row.of_own ho4) (And.intro (H3.out.1.below hb4) (And.intro (H3.out.2.1.below hb4) (below_then H3.out.2.2 hb4))))
    clear ho4 hb4 H3
    refine Lib.hid ?_
    go_wp2_with (first
      | (refine wpList_load_row rfl 29 _ rfl w.heap.size rfl _ _ _ _ H4.out.2.1 Try.underlying29 rfl (by kernel_rfl) ?_)
      | (go_at_call 17; refine (toExpr_any _ _ _ _).mono ?_; rintro e w5 ⟨rfl, hb5⟩)
      | (go_at_call 18; refine (impl_evalExpr _ _ _ _ L hsm (H4.out.1.below hb5) _ _ _).mono ?_; rintro e w6 ⟨rfl, hb6⟩; refine Hid.out ?_))
    have G6 := below_then hb5 hb6
    have H6 := Lib.hid (And.intro (H4.out.1.below G6) (And.intro (H4.out.2.2.1.below G6) (below_then H4.out.2.2.2 G6)))
    clear hb5 hb6 G6 H4
    refine Lib.hid ?_
    go_wp2_with (go_at_call 11; refine (toInts_any _ _ _ _ L hsm H6.out.2.1).mono ?_; rintro e w7 ⟨a7, rfl, ho7, hb7⟩; refine Hid.out ?_)
    have H7 := Lib.hid (And.intro (And.intro (H6.out.1.below hb7) (Row.of_own ho7)) (below_then H6.out.2.2 hb7))
    clear ho7 hb7 H6
    refine Lib.hid ?_
    go_wp2_with (go_at_call 13; refine (eqInts_any _ _ _ _ _ _ L hsm H7.out.1.1 H7.out.1.2).mono ?_; rintro e w8 ⟨rfl, hg8⟩)
    go_ret
    exact ⟨rfl, below_then H7.out.2 (below_grown hg8)⟩


/-! ### THE ROW's STEP -/
set_option maxRecDepth 100000 in
theorem lifted (os : Os) (started : os.Started) (H : Type) (enc : TypeId × Value → H) :
    ReturnsInHanded {} Try.checked os 5 .any (Rows.fnExactEvalExprSpec.pre6 enc Try.prog Try.f5 Rows.fnExactEvalExprRow.domain false) (Rows.fnExactEvalExprSpec.post enc Try.prog Try.f5 false true false false) := by
  refine returnsInHanded_of_change (C := Try.checked) own started (by kernel_rfl) Try.func5
    (ChangeSpec.witness6 (enc := enc) (C := Try.checked) false ⟨#[], #[.slice none 0 0, .agg #[.int .i64 0, .int .i64 0, .int .i64 0]], []⟩ 8 (by kernel_rfl) (by kernel_rfl) (by kernel_rfl) (by kernel_rfl)) ?_
  intro W base args ds gs before hval0 hW hcnd _
  have hval : ∀ (j : Nat) t v, Try.f5.params[j]? = some t → args[j]? = some v → Value.okWide Try.prog W .any base t v := hval0
  have hW' := hW
  obtain ⟨p, q, hA0, hV, rfl, hfz, hnd⟩ := hW
  have hA : DataW.TrodAll enc Try.prog W 0 (fun _ => true) true Try.f5.params.toList args.toList ds p := hA0
  rw [Try.params5] at hA hval
  obtain ⟨v0, vs0, d0, ds0, p0, q0, hargs, rfl, rfl, h0, r0⟩ := trodAll_cons hA
  obtain ⟨v1, vs1, d1, ds1, p1, q1, rfl, rfl, rfl, h1, r1⟩ := trodAll_cons r0
  obtain ⟨rfl, rfl, rfl⟩ := trodAll_nil r1
  obtain rfl : args = #[v0, v1] := by cases args; simp_all
  obtain ⟨rfl, rfl⟩ := trodVars_none hV
  obtain ⟨a0, len0, cap0, rfl⟩ := okWide_slice Try.underlying22 (hval 0 22 v0 rfl rfl)
  have k0 := h0
  have lt0 : ∀ x ∈ p0, x.block < W.heap.size := by obtain ⟨m, hm⟩ := k0; exact DataW.trod_lt m _ _ _ hm
  obtain ⟨z0, w0⟩ : ∃ zs, IsRow .i64 W a0 len0 cap0 zs := by
    obtain ⟨fuel, hf⟩ := h0
    rcases open_ints Try.underlying22 Try.underlying3 (by kernel_rfl) hf with ⟨hcs, _⟩ | ⟨x, l, c, zs, hcs, _, hl, hm, hz, _, hcell, hwz⟩
    · simp [Value.cells] at hcs
      obtain ⟨rfl, rfl, rfl⟩ := hcs
      exact ⟨[], .inl ⟨rfl, rfl, rfl, rfl⟩⟩
    · simp [Value.cells] at hcs
      obtain ⟨rfl, rfl, rfl⟩ := hcs
      exact ⟨zs, .inr ⟨_, rfl, hl, hm, by simpa using hz, hcell, hwz⟩⟩
  have k1 := h1
  have lt1 : ∀ x ∈ p1, x.block < W.heap.size := by obtain ⟨m, hm⟩ := k1; exact DataW.trod_lt m _ _ _ hm
  have w1 : IsExpr W v1 := open_Expr (hval 1 29 v1 rfl rfl) h1
  clear hA0 hval0
  refine (walk a0 len0 cap0 z0 v1 W w0 w1).mono fun e W' ⟨he, bel⟩ => ?_
  subst he
  exact ⟨_, rfl, _, _, _, [], _, [], hW', trodAll_mk1 (shut_bool Try.underlying4 _), (trodAll_cons_mk (Below.trod laidOut (by kernel_rfl) (of_decide_eq_true (by kernel_rfl)) k0 bel lt0) (trodAll_cons_mk (Below.trod laidOut (by kernel_rfl) (of_decide_eq_true (by kernel_rfl)) k1 bel lt1) trodAll_mk0)), rfl, bel.frame _, fun h => by cases h⟩

theorem over : Rows.fnExactEvalExprRow.holds Try.pinned (OpenSpec.ofChange Rows.fnExactEvalExprSpec) :=
  OpenClaim.holds_of_wide 5 Try.f5 rfl rfl rfl rfl rfl rfl rfl ⟨rfl, rfl, rfl, rfl, rfl⟩ rfl rfl rfl rfl rfl (by kernel_rfl) Try.func5 (by kernel_rfl)
    (of_decide_eq_true (by kernel_rfl)) (by unfold Func.isWrapper; first | (rw [if_pos (by decide +kernel)]; kernel_rfl) | (rw [if_neg (by decide +kernel)]; exact ⟨rfl, rfl⟩))
    (fun os started H enc _ => lifted os started H enc)

/-- ████ THE STATEMENT ████ -/
theorem proved : Rows.FnExactEvalExprSaid := over
#print axioms proved
end Go.Proofs.Ytnpofcalghdaaaa.fnExactEvalExpr
