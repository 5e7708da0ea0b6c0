/- For every expression FnExactReadsOf returns true; no condition. -/
import Derived.Test.YtbifacjemdoenaaRows
import Derived.WalkKit
import Derived.ProofKit
import Derived.OpenShut
import Derived.ShutString
import Derived.ChangeOld
import Derived.Below
import Derived.Test.YtbifacjemdoenaaReadD
import Derived.Test.YtbifacjemdoenaaOpen
namespace Go.Proofs.Ytbifacjemdoenaa.fnExactReadsOf
open Go.ChangeShapes Go.WideShapes Go.ChangeAt Go.RowKit
open Go.ChangeMaps (open_string shut_string)
set_option linter.unusedVariables false

theorem own : ownKnob Try.prog.godebug = none := by kernel_rfl
theorem laidOut : laidOutB Try.prog = true := by kernel_rfl

open Go.Proofs.Ytbifacjemdoenaa.row Go.Proofs.Ytbifacjemdoenaa.val Go.Proofs.Ytbifacjemdoenaa.expr Go.Proofs.Ytbifacjemdoenaa.opn
theorem readsV_len (o a b : Int) : (readsV o a b).length ≤ 8 := by
  unfold readsV; split
  · exact rd_len a b 8
  · simp
set_option maxHeartbeats 2000000 in
theorem walk (a0 : Value) (w : World) (w0 : IsExpr w a0) :
    Calls Try.prog 8 #[a0] w fun e w' => e = .returned (.bool true) ∧ Below w.heap.size w w' := by
  obtain ⟨o, a, b, rfl, _, _, _⟩ := w0
  have hL := readsV_len o a b
  obtain ⟨L, HL⟩ : ∃ L, Hid (L = readsV o a b) := ⟨_, rfl⟩
  rw [← HL.out] at hL
  have hx := Box.new w #[.int .i64 o, .int .i64 a, .int .i64 b] 24
  have hn := below_new w (.cells #[.int .i64 o, .int .i64 a, .int .i64 b] 24)
  have H0 := Lib.hid (And.intro hx hn)
  clear hx hn
  have HS : Hid (∀ W, Calls Try.prog 22 #[ev o a b] W (NewInts W L)) := fun W => by rw [HL.out]; exact spec_reads W o a b
  have HI : Hid (∀ W, Calls Try.prog 23 #[ev o a b] W (NewInts W L)) := fun W => by rw [HL.out]; exact impl_reads W o a b
  clear HL
  go_enter Try.func8, Try.ntmps8
  go_wp2_with (go_at_call 12; refine (toExpr_any _ _ _ _).mono ?_; rintro e w1 ⟨rfl, hb1⟩; refine Hid.out ?_)
  have H1 := Lib.hid (And.intro (H0.out.1.below hb1) (below_then H0.out.2 hb1))
  clear hb1 H0
  refine Lib.hid ?_
  go_wp2_with (go_at_call 22; refine (HS.out _).mono ?_; rintro e w2 ⟨ad2, n, cap2, rfl, ho2, hb2⟩; refine Hid.out ?_)
  have hn8 : (n : Int) ≤ 8 := by have := own_len ho2; omega
  have H2 := Lib.hid (And.intro ho2 (And.intro (H1.out.1.below hb2) (below_then H1.out.2 hb2)))
  clear ho2 hb2 H1
  refine Lib.hid ?_
  go_wp2_with (first
    | (refine wpList_load_row rfl 24 _ rfl w.heap.size rfl _ _ _ _ H2.out.2.1 Try.underlying24 rfl (by kernel_rfl) ?_)
    | (go_at_call 12; refine (toExpr_any _ _ _ _).mono ?_; rintro e w3 ⟨rfl, hb3⟩; refine Hid.out ?_))
  have H3 := Lib.hid (And.intro (H2.out.1.kept (grown_below hb3 none) (by cases ad2 <;> simp [Value.ownBlock])) (And.intro (H2.out.2.1.below hb3) (below_then H2.out.2.2 hb3)))
  clear hb3 H2
  refine Lib.hid ?_
  go_wp2_with (go_at_call 23; refine (HI.out _).mono ?_; rintro e w4 ⟨ad4, n4, cap4, rfl, ho4, hb4⟩; refine Hid.out ?_)
  obtain rfl : n4 = n := by have h1 := own_len ho4; have h2 := own_len H3.out.1; omega
  have HD : Hid (∀ g, Value.ownBlock (.slice ad2 n4 cap2) = some g → g < w3.heap.size) := fun g hg => (H3.out.1.lt g hg).2
  have H3s : Hid (w.heap.size + 1 ≤ w3.heap.size) := by have h1 := H3.out.2.1.lt; show _ ≤ _; omega
  have H4 := Lib.hid (And.intro ho4 (And.intro (H3.out.1.kept (grown_below hb4 none) (by cases ad2 <;> simp [Value.ownBlock])) (And.intro (H3.out.2.1.below hb4) (below_then H3.out.2.2 hb4))))
  clear ho4 hb4 H3
  refine Lib.hid ?_
  go_wp2_with (go_at_call 17; refine (eqInts_any _ _ _ _ _ _ L (by omega) (Row.of_own H4.out.1) (Row.of_own H4.out.2.1)).mono ?_; rintro e w5 ⟨rfl, hg5⟩; refine Hid.out ?_)
  have H5 := Lib.hid (And.intro (H4.out.1.kept hg5 (by cases ad4 <;> simp [Value.ownBlock])) (And.intro (H4.out.2.1.kept hg5 (by cases ad2 <;> simp [Value.ownBlock])) (And.intro (H4.out.2.2.1.below (below_grown hg5)) (below_then H4.out.2.2.2 (below_grown hg5)))))
  clear hg5 H4
  refine Lib.hid ?_
  go_wp2_with (go_at_call 24; refine (markInts_any _ _ _ _ _ 1 _ (by omega) (by omega) H5.out.1).mono ?_; rintro e w6 ⟨rfl, hg6, L6, ho6, hM6⟩; refine Hid.out ?_)
  have hb6 : Below w.heap.size w w6 := H5.out.2.2.2.grown hg6 H5.out.2.2.2.size (fun k hk => by have h1 := (H5.out.1.lt k hk).1; have h2 := H3s.out; omega)
  have H6 := Lib.hid (And.intro ho6 (And.intro hM6 (And.intro (H5.out.2.1.kept hg6 (by
      cases h1 : Value.ownBlock (.slice ad2 n4 cap2) with
      | none => exact .inl rfl
      | some g =>
        right; intro e
        have := HD.out g h1
        have := (H5.out.1.lt g e.symm).1
        omega)) (And.intro (H5.out.2.2.1.grown hg6 (by
      intro e
      have h1 := (H5.out.1.lt _ e.symm).1
      have h2 := H3s.out
      omega)) hb6))))
  clear ho6 hM6 hg6 hb6 H5
  refine Lib.hid ?_
  go_wp2_with (go_at_call 25; refine (heldInts_any _ _ _ _ 1 _ (by omega) (by omega) (Row.of_own H6.out.1) H6.out.2.1).mono ?_; rintro e w7 ⟨rfl, hg7⟩; refine Hid.out ?_)
  have H7 := Lib.hid (And.intro (H6.out.1.kept hg7 (by cases ad4 <;> simp [Value.ownBlock])) (And.intro H6.out.2.1 (And.intro (H6.out.2.2.1.kept hg7 (by cases ad2 <;> simp [Value.ownBlock])) (And.intro (H6.out.2.2.2.1.below (below_grown hg7)) (below_then H6.out.2.2.2.2 (below_grown hg7))))))
  clear hg7 H6
  refine Lib.hid ?_
  go_wp2_with (first
    | (refine wpList_load_row rfl 24 _ rfl w.heap.size rfl _ _ _ _ H7.out.2.2.2.1 Try.underlying24 rfl (by kernel_rfl) ?_)
    | (go_at_call 12; refine (toExpr_any _ _ _ _).mono ?_; rintro e w8 ⟨rfl, hb8⟩; refine Hid.out ?_))
  have H8 := Lib.hid (And.intro (H7.out.1.kept (grown_below hb8 none) (by cases ad4 <;> simp [Value.ownBlock])) (And.intro H7.out.2.1 (And.intro (H7.out.2.2.1.kept (grown_below hb8 none) (by cases ad2 <;> simp [Value.ownBlock])) (below_then H7.out.2.2.2.2 hb8))))
  clear hb8 H7
  refine Lib.hid ?_
  go_wp2_with (go_at_call 23; refine (HI.out _).mono ?_; rintro e w9 ⟨ad9, n9, cap9, rfl, ho9, hb9⟩; refine Hid.out ?_)
  obtain rfl : n9 = n4 := by have h1 := own_len ho9; have h2 := own_len H8.out.2.2.1; omega
  have H9 := Lib.hid (And.intro (H8.out.1.kept (grown_below hb9 none) (by cases ad4 <;> simp [Value.ownBlock])) (And.intro H8.out.2.1 (And.intro (And.intro (Row.of_own ho9) (Row.of_own (H8.out.2.2.1.kept (grown_below hb9 none) (by cases ad2 <;> simp [Value.ownBlock])))) (below_then H8.out.2.2.2 hb9))))
  clear ho9 hb9 H8
  refine Lib.hid ?_
  go_wp2_with (go_at_call 17; refine (eqInts_any _ _ _ _ _ _ L (by omega) H9.out.2.2.1.1 H9.out.2.2.1.2).mono ?_; rintro e w10 ⟨rfl, hg10⟩; refine Hid.out ?_)
  have H10 := Lib.hid (And.intro (H9.out.1.kept hg10 (by cases ad4 <;> simp [Value.ownBlock])) (And.intro H9.out.2.1 (below_then H9.out.2.2.2 (below_grown hg10))))
  clear hg10 H9
  refine Lib.hid ?_
  go_wp2_with (go_at_call 25; refine (heldInts_any _ _ _ _ 1 _ (by omega) (by omega) (Row.of_own H10.out.1) H10.out.2.1).mono ?_; rintro e w11 ⟨rfl, hg11⟩)
  go_ret
  exact ⟨rfl, below_then H10.out.2.2 (below_grown hg11)⟩


/-! ### THE ROW's STEP -/
set_option maxRecDepth 100000 in
theorem lifted (os : Os) (started : os.Started) (H : Type) (enc : TypeId × Value → H) :
    ReturnsInHanded {} Try.checked os 8 .any (Rows.fnExactReadsOfSpec.pre6 enc Try.prog Try.f8 Rows.fnExactReadsOfRow.domain false) (Rows.fnExactReadsOfSpec.post enc Try.prog Try.f8 false true false false) := by
  refine returnsInHanded_of_change (C := Try.checked) own started (by kernel_rfl) Try.func8
    (ChangeSpec.witness6 (enc := enc) (C := Try.checked) false ⟨#[], #[.agg #[.int .i64 0, .int .i64 0, .int .i64 0]], []⟩ 8 (by kernel_rfl) (by kernel_rfl) (by kernel_rfl) (by kernel_rfl)) ?_
  intro W base args ds gs before hval0 hW hcnd _
  have hval : ∀ (j : Nat) t v, Try.f8.params[j]? = some t → args[j]? = some v → Value.okWide Try.prog W .any base t v := hval0
  have hW' := hW
  obtain ⟨p, q, hA0, hV, rfl, hfz, hnd⟩ := hW
  have hA : DataW.TrodAll enc Try.prog W 0 (fun _ => true) true Try.f8.params.toList args.toList ds p := hA0
  rw [Try.params8] at hA hval
  obtain ⟨v0, vs0, d0, ds0, p0, q0, hargs, rfl, rfl, h0, r0⟩ := trodAll_cons hA
  obtain ⟨rfl, rfl, rfl⟩ := trodAll_nil r0
  obtain rfl : args = #[v0] := by cases args; simp_all
  obtain ⟨rfl, rfl⟩ := trodVars_none hV
  have k0 := h0
  have lt0 : ∀ x ∈ p0, x.block < W.heap.size := by obtain ⟨m, hm⟩ := k0; exact DataW.trod_lt m _ _ _ hm
  have w0 : IsExpr W v0 := open_Expr (hval 0 24 v0 rfl rfl) h0
  clear hA0 hval0
  refine (walk v0 W w0).mono fun e W' ⟨he, bel⟩ => ?_
  subst he
  exact ⟨_, rfl, _, _, _, [], _, [], hW', trodAll_mk1 (shut_bool Try.underlying4 _), (trodAll_cons_mk (Below.trod laidOut (by kernel_rfl) (of_decide_eq_true (by kernel_rfl)) k0 bel lt0) trodAll_mk0), rfl, bel.frame _, fun h => by cases h⟩

theorem over : Rows.fnExactReadsOfRow.holds Try.pinned (OpenSpec.ofChange Rows.fnExactReadsOfSpec) :=
  OpenClaim.holds_of_wide 8 Try.f8 rfl rfl rfl rfl rfl rfl rfl ⟨rfl, rfl, rfl, rfl, rfl⟩ rfl rfl rfl rfl rfl (by kernel_rfl) Try.func8 (by kernel_rfl)
    (of_decide_eq_true (by kernel_rfl)) (by unfold Func.isWrapper; first | (rw [if_pos (by decide +kernel)]; kernel_rfl) | (rw [if_neg (by decide +kernel)]; exact ⟨rfl, rfl⟩))
    (fun os started H enc _ => lifted os started H enc)

/-- ████ THE STATEMENT ████ -/
theorem proved : Rows.FnExactReadsOfSaid := over
#print axioms proved
end Go.Proofs.Ytbifacjemdoenaa.fnExactReadsOf
