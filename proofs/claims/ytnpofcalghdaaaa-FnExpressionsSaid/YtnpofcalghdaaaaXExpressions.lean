/- For every input the law FnExpressions returns true and leaves its argument as it was; no condition. -/
import Derived.Test.YtnpofcalghdaaaaRows
import Derived.WalkKit
import Derived.ProofKit
import Derived.OpenShut
import Derived.ShutString
import Derived.ChangeOld
import Derived.Below
import Derived.Test.YtnpofcalghdaaaaEvalD
import Derived.Test.YtnpofcalghdaaaaDrawE
namespace Go.Proofs.Ytnpofcalghdaaaa.fnExpressions
open Go.ChangeShapes Go.WideShapes Go.ChangeAt Go.RowKit
open Go.ChangeMaps (open_string shut_string)
set_option linter.unusedVariables false

theorem own : ownKnob Try.prog.godebug = none := by kernel_rfl
theorem laidOut : laidOutB Try.prog = true := by kernel_rfl

/-- WHAT THE WALK IS TOLD OF A SLICE OF INTEGERS THAT CAME IN: it is nil; or it leads to a row of 'cap' cells, the numbers 'zs' (the first 'len' are its elements, the rest its spare room), each fitting its kind. -/
def IsRow (k : IntKind) (w : World) (a : Option Addr) (len cap : Nat) (zs : List Int) : Prop :=
  (a = none ∧ len = 0 ∧ cap = 0 ∧ zs = []) ∨
  ∃ x, a = some x ∧ len ≤ cap ∧ cap ≤ maxLen ∧ zs.length = cap ∧ (∀ i, i < zs.length → w.cell? (x.add i) = some (.int k (zs.getD i 0))) ∧ ∀ n ∈ zs, (Lit.int k n).wf = true

open Go.Proofs.Ytnpofcalghdaaaa.row Go.Proofs.Ytnpofcalghdaaaa.val Go.Proofs.Ytnpofcalghdaaaa.expr Go.Proofs.Ytnpofcalghdaaaa.stm Go.Proofs.Ytnpofcalghdaaaa.cur
theorem val_is (n : Int) (v : Bool) (w : World) (h : isVal n = v) : Calls Try.prog 25 #[.int .i64 n] w (RetB w v) := by
  subst h; exact impl_isval n w
theorem eval_is (w : World) (ad : Option Addr) (n cap : Nat) (L : List Int) (hn : (n : Int) ≤ 1048576) (h : Row w ad n L) (o a b Y : Int) (hY : evalV L o a b = Y) :
    Calls Try.prog 18 #[.slice ad n cap, ev o a b] w (BelI w Y) := by
  subst hY; exact impl_evalExpr w ad n cap L hn h o a b
theorem reads_is (w : World) (o a b : Int) (h : exprOk o a b = true) : Calls Try.prog 23 #[ev o a b] w (NewInts w (rd a b 8)) := impl_reads_ok w o a b h
theorem ivs_one_cell (L : List Int) : ∀ u ∈ ivs L, u.oneCell' = true := by
  intro u hu
  obtain ⟨x, _, rfl⟩ := List.mem_map.1 hu
  rfl
set_option maxRecDepth 100000 in
set_option maxHeartbeats 4000000 in
theorem walk (a0 : Option Addr) (len0 cap0 : Nat) (z0 : List Int) (w : World) (w0 : IsRow .u8 w a0 len0 cap0 z0) :
    Calls Try.prog 6 #[.slice a0 len0 cap0] w fun e w' => e = .returned (.bool true) ∧ Below w.heap.size w w' := by
  obtain ⟨i0, hi, hz0, hz1, hz2⟩ := info_parts row.infoInt
  have HB : Hid (∀ i : Nat, i < len0 → ∃ (b off : Nat) (v : Int), a0 = some ⟨b, off, none⟩ ∧ w.cell? ⟨b, off + i, none⟩ = some (.int .u8 v)) := by
    intro i hi
    rcases w0 with ⟨_, h0, _⟩ | ⟨x, rfl, hl, _, hz, hcell, _⟩
    · omega
    · obtain ⟨b, off, rfl, hc⟩ := ints_at hcell (by omega)
      exact ⟨b, off, _, rfl, hc i (by omega)⟩
  have HB2 : Hid (∀ w1 : World, Below w.heap.size w w1 → ∀ i : Nat, i < len0 → ∃ (b off : Nat) (v : Int), a0 = some ⟨b, off, none⟩ ∧ w1.cell? ⟨b, off + i, none⟩ = some (.int .u8 v)) := by
    intro w1 hb1 i hi
    obtain ⟨b, off, v, ha, hv⟩ := HB.out i hi
    exact ⟨b, off, v, ha, (hb1.cell (World.block_lt_of_cell? w _ hv)).trans hv⟩
  clear w0
  by_cases hbig : (1048576 : Int) < len0
  · go_enter Try.func6, Try.ntmps6
    go_wp2_with (go_at_call 19; refine (big_yes _ _ _ _ hbig).mono ?_; rintro e w1 ⟨rfl, rfl⟩)
    go_ret
    exact ⟨rfl, Below.refl _ _⟩
  · have hsm : (len0 : Int) ≤ 1048576 := by omega
    clear hbig
    go_enter Try.func6, Try.ntmps6
    go_wp2_with (first
      | (go_at_call 19; refine (big_no _ _ _ _ hsm).mono ?_; rintro e w1 ⟨rfl, rfl⟩)
      | (go_at_call 20; refine (task_any _ _ _ _ hsm HB.out).mono ?_; rintro e w1 ⟨gb, mb, cb, LB, o, x, y, rfl, _, _, HOK, _, hb1⟩; refine Hid.out ?_))
    have H1 := Lib.hid (And.intro (Box.new w1 #[.slice (some ⟨gb, 0, none⟩) mb cb, .int .i64 o, .int .i64 x, .int .i64 y] 38) (below_then hb1 (below_new w1 (.cells #[.slice (some ⟨gb, 0, none⟩) mb cb, .int .i64 o, .int .i64 x, .int .i64 y] 38))))
    clear hb1
    refine Lib.hid ?_
    go_wp2_with (go_at_call 21; refine (vars_any _ _ _ _ hsm (HB2.out _ H1.out.2)).mono ?_; rintro e w2 ⟨ad, c, V, rfl, HVL, HVV, hown2, hb2⟩; refine Hid.out ?_)
    have H2 := Lib.hid (And.intro hown2 (And.intro (H1.out.1.below hb2) (below_then H1.out.2 hb2)))
    clear hown2 hb2 H1
    refine Lib.hid ?_
    go_wp2_with (go_at_call 22; refine (places_any _ _ _ _ hsm (HB2.out _ H2.out.2.2)).mono ?_; rintro e w3 ⟨v, P, rfl, hl, HP, hown3, hb3⟩; refine Hid.out ?_)
    obtain ⟨g, c2, rfl, hbg, hlg, p, hp, hcp⟩ := own_atI hown3 (k := 0) (by omega)
    obtain ⟨g', c', hv', _, _, q, hq, hcq⟩ := own_atI hown3 (k := 1) (by omega)
    injection hv' with h1 h2 h3
    injection h1 with h1
    injection h1 with h1
    subst h1
    have hp' := HP.out p (List.mem_of_getElem? hp)
    have hq' := HP.out q (List.mem_of_getElem? hq)
    have hbx3 := H2.out.2.1.below hb3
    have ct1 := hbx3.cell 1
    have ct2 := hbx3.cell 2
    have ct3 := hbx3.cell 3
    have hvok : varsOk V = true := (varsOk_iff V).2 ⟨HVL.out, HVV.out⟩
    have hokp := (exprOk_iff o x y).1 HOK.out
    have hsh := rd_short hokp.2.1 hokp.2.2
    obtain ⟨j, hj8, hj⟩ : ∃ j : Nat, j < 8 ∧ p % 8 = (j : Int) := ⟨(p % 8).toNat, by omega, by omega⟩
    have hqv : isVal (q - 5000) = true := isVal_in (by omega) (by omega)
    have M1 := Lib.hid (And.intro hvok (And.intro (varsOk_set hvok hqv j) (And.intro (evalV_val V o x y) (And.intro hsh (fun h => evalV_set (o := o) hvok hqv hj8 h : ¬ (j : Int) ∈ rd x y 8 → evalV (V.set j (q - 5000)) o x y = evalV V o x y)))))
    have hown23 := H2.out.1.kept (grown_below hb3 none) (by cases ad <;> simp [Value.ownBlock])
    have H3 := Lib.hid (And.intro hown23 (And.intro hown3 (below_then H2.out.2.2 hb3)))
    have hj0 : (0 : Int) ≤ j := by omega
    have hjI : (j : Int) < 8 := by omega
    have hsz3 := H2.out.2.2.size
    obtain ⟨gv, cv, hadv, _, _⟩ := hown23.form (by omega)
    injection hadv with ea _ ec
    subst ea
    subst ec
    clear hown23 hown3 hb3 hbx3 H2 hvok hokp hsh hp hq HVL HVV
    refine Lib.hid ?_
    go_wp2_with (go_at_call 18; refine (impl_evalExpr _ _ _ _ V (by omega) ((Row.of_own H3.out.1).below (below_new _ _)) o x y).mono ?_; rintro e w4 ⟨rfl, hb4⟩; refine Hid.out ?_)
    have H4 := Lib.hid (And.intro ((Box.new w3 #[.int .i64 o, .int .i64 x, .int .i64 y] 31).below hb4) (And.intro ((H3.out.1.alloc _).kept (grown_below hb4 none) (by simp [Value.ownBlock])) (And.intro ((H3.out.2.1.alloc _).kept (grown_below hb4 none) (by simp [Value.ownBlock])) (below_then (below_then H3.out.2.2 (below_new w3 (.cells #[.int .i64 o, .int .i64 x, .int .i64 y] 31))) hb4))))
    have hP4 : w4.cell? ⟨g, 0, none⟩ = some (.int .i64 p) ∧ w4.cell? ⟨g, 1, none⟩ = some (.int .i64 q) := by
      have hl : g < (w3.alloc (.cells #[.int .i64 o, .int .i64 x, .int .i64 y] 31)).heap.size := by simp; omega
      exact ⟨(hb4.cell (p := ⟨g, 0, none⟩) hl).trans (((below_new w3 _).cell (p := ⟨g, 0, none⟩) hlg).trans hcp), (hb4.cell (p := ⟨g, 1, none⟩) hl).trans (((below_new w3 _).cell (p := ⟨g, 1, none⟩) hlg).trans hcq)⟩
    have hlg4 : g < w4.heap.size ∧ w3.heap.size < w4.heap.size := by have := hb4.size; simp at this; omega
    clear hb4 H3 hcp hcq ct1 ct2 ct3
    refine Lib.hid ?_
    go_wp2_with (first
      | (refine wpList_load_row rfl 31 _ rfl w3.heap.size rfl _ _ _ _ H4.out.1 Try.underlying31 rfl (by kernel_rfl) ?_)
      | (go_at_call 23; refine (reads_is _ _ _ _ HOK.out).mono ?_; rintro e w5 ⟨ad5, n5, cap5, rfl, ho5, hb5⟩; refine Hid.out ?_))
    have hn5 : (n5 : Int) ≤ 2 := by have h1 := own_len ho5; have h2 := M1.out.2.2.2.1; omega
    have hP5 : w5.cell? ⟨g, 0, none⟩ = some (.int .i64 p) ∧ w5.cell? ⟨g, 1, none⟩ = some (.int .i64 q) :=
      ⟨(hb5.cell (p := ⟨g, 0, none⟩) hlg4.1).trans hP4.1, (hb5.cell (p := ⟨g, 1, none⟩) hlg4.1).trans hP4.2⟩
    have hsz5 := hb5.size
    have HO5 := Lib.hid (And.intro (ho5.alloc (.cells #[] 3)) (fun b hb => (ho5.lt b hb).2 : ∀ b, (Value.slice ad5 n5 cap5).ownBlock = some b → b < w5.heap.size))
    have H5 := Lib.hid (And.intro (H4.out.1.below hb5) (And.intro (H4.out.2.1.kept (grown_below hb5 none) (by simp [Value.ownBlock])) (below_then H4.out.2.2.2 hb5)))
    have HE := Lib.hid (World.ownsRow_made (base := w5.heap.size) (e := 3) (size := 1) w5 #[] 0 (Nat.le_refl _) (by decide) rfl)
    have HV5 := Lib.hid (H5.out.2.1.alloc (.cells #[] 3))
    obtain ⟨hcp5, hcq5⟩ := hP5
    have hmod1 : p.tmod 8 = (j : Int) := by rw [Int.tmod_eq_emod_of_nonneg hp'.1]; exact hj
    clear hb5 ho5 H4 hP4
    refine Lib.hid ?_
    go_wp2_with (at_builtin; refine wpList_append_own _ rfl _ _ 22 rfl w5.heap.size 3 i0 (.int .i64 0) 1 8 Try.underlying22 hi hz0 hz1 hz2 rfl (by decide) _ _ _ rfl HE.out ⟨gv, 0, none⟩ 8 c (ivs V) rfl HV5.out.1 (HV5.out.cells (g := gv) rfl) (ivs_one_cell V) (by unfold maxLen; omega) (by omega) (by simp) ?_; intro v7 w7 hown7 hgrow7 _; refine Hid.out ?_)
    rw [Nat.zero_add, List.nil_append] at hown7
    obtain ⟨g7, c7, rfl, hg7, hl7⟩ := hown7.form (by omega)
    have hA7 : (w5.alloc (.cells #[] 3)).grownBy w7 (some w5.heap.size) := hgrow7
    have hal : w5.heap.size < (w5.alloc (.cells #[] 3)).heap.size := by simp
    have hcq7 : w7.cell? ⟨g, 1, none⟩ = some (.int .i64 q) := hA7.cell (((below_new w5 _).cell (p := ⟨g, 1, none⟩) (by show g < _; omega)).trans hcq5) (by intro e; have := Option.some.inj e; simp only at this; omega)
    have hb7 : Box w3.heap.size #[.int .i64 o, .int .i64 x, .int .i64 y] 31 w7 := (H5.out.1.alloc _).grown hA7 (by intro e; have := Option.some.inj e; omega)
    have hO7 := HO5.out.1.kept hA7 (by
      cases h : (Value.slice ad5 n5 cap5).ownBlock with
      | none => exact .inl rfl
      | some b => right; intro e; have h1 := HO5.out.2 b h; have h2 := Option.some.inj e; omega)
    have hbel7 : Below w.heap.size w w7 := Below.grown (below_then H5.out.2.2 (below_new w5 (.cells #[] 3))) hA7 (by have := H5.out.2.2.size; simp; omega) (fun k hk => by cases hk; exact H5.out.2.2.size)
    obtain ⟨g7', X, eg, _, _, hX, hfz⟩ := own_store hown7 hj8
    obtain rfl : g7 = g7' := by injection eg with e1; injection e1
    obtain ⟨hown8, hgrow8⟩ := hown7.stored j (.int .i64 (q - 5000))
    rw [ivs_set] at hown8
    have hO8 := hO7.kept hgrow8 (by
      cases h : (Value.slice ad5 n5 cap5).ownBlock with
      | none => exact .inl rfl
      | some b => right; intro e; have h1 := HO5.out.2 b h; have h2 := Option.some.inj e; omega)
    have H8 := Lib.hid (And.intro (Row.of_own hO8) (And.intro (Row.of_own hown8) (And.intro (hb7.grown hgrow8 (by intro e; have := Option.some.inj e; omega)) (Below.grown hbel7 hgrow8 hbel7.size (fun k hk => by cases hk; have := H5.out.2.2.size; omega)))))
    obtain ⟨Z, hZ⟩ : ∃ Z, Z = evalV V o x y := ⟨_, rfl⟩
    obtain ⟨Y, hY, hYZ⟩ : ∃ Y, evalV (V.set j (q - 5000)) o x y = Y ∧ (decide ((j : Int) ∈ rd x y 8) = true ∨ (decide ((j : Int) ∈ rd x y 8) = false ∧ Y = Z)) := by
      refine ⟨_, rfl, ?_⟩
      by_cases h : (j : Int) ∈ rd x y 8
      · exact Or.inl (by simpa using h)
      · exact Or.inr ⟨by simpa using h, by rw [hZ]; exact M1.out.2.2.2.2 h⟩
    have HY := Lib.hid hY
    have HZV := Lib.hid (show isVal Z = true by rw [hZ]; exact M1.out.2.2.1)
    rw [← hZ]
    clear hY hZ hown7 hgrow7 hO7 hO8 hb7 hbel7 hown8 hgrow8 hA7 H5 HO5 HE HV5 eg hcp5
    rcases hYZ with hin | ⟨hout, rfl⟩
    all_goals
      refine Lib.hid ?_
      go_wp2_with (first
        | (refine wpList_load_row rfl 31 _ rfl w3.heap.size rfl _ _ _ _ H8.out.2.2.1 Try.underlying31 rfl (by kernel_rfl) ?_)
        | (go_at_call 18; refine (eval_is _ _ _ _ _ (by omega) H8.out.2.1 _ _ _ _ HY.out).mono ?_; rintro e w9 ⟨rfl, hb9⟩; refine Hid.out ?_))
      have H9 := Lib.hid (And.intro (H8.out.1.below hb9) (And.intro (H8.out.2.1.below hb9) (And.intro (H8.out.2.2.1.below hb9) (below_then H8.out.2.2.2 hb9))))
      clear hb9 H8 hcq5 hcq7 hX hfz
      refine Lib.hid ?_
      go_wp2_with (first
        | (refine wpList_load_row rfl 31 _ rfl w3.heap.size rfl _ _ _ _ H9.out.2.2.1 Try.underlying31 rfl (by kernel_rfl) ?_)
        | (go_at_call 24; refine (impl_exprok _ _ _ _ HOK.out _).mono ?_; rintro e w10 ⟨rfl, hb10⟩)
        | (go_at_call 12; refine (impl_vars _ _ _ _ _ (by omega) (H9.out.2.1.below hb10) true M1.out.2.1).mono ?_; rintro e w11 ⟨rfl, rfl⟩)
        | (go_at_call 25; refine (val_is _ true _ HZV.out).mono ?_; rintro e w11 ⟨rfl, rfl⟩)
        | (go_at_call 26; refine (has_any _ _ _ _ _ _ _ (by omega) (H9.out.1.below hb10) (by assumption)).mono ?_; rintro e w11 ⟨rfl, rfl⟩))
      go_ret
      exact ⟨rfl, below_then H9.out.2.2.2 hb10⟩


/-! ### THE ROW's STEP: WRITTEN OUT: LEAVE IT -/
set_option maxRecDepth 100000 in
theorem lifted (os : Os) (started : os.Started) (H : Type) (enc : TypeId × Value → H) :
    ReturnsInHanded {} Try.checked os 6 .any (Rows.fnExpressionsSpec.pre6 enc Try.prog Try.f6 Rows.fnExpressionsRow.domain false) (Rows.fnExpressionsSpec.post enc Try.prog Try.f6 false true false false) := by
  refine returnsInHanded_of_change (C := Try.checked) own started (by kernel_rfl) Try.func6
    (ChangeSpec.witness6 (enc := enc) (C := Try.checked) false ⟨#[], #[.slice none 0 0], []⟩ 8 (by kernel_rfl) (by kernel_rfl) (by kernel_rfl) (by kernel_rfl)) ?_
  intro W base args ds gs before hval0 hW hcnd _
  have hval : ∀ (j : Nat) t v, Try.f6.params[j]? = some t → args[j]? = some v → Value.okWide Try.prog W .any base t v := hval0
  have hW' := hW
  obtain ⟨p, q, hA0, hV, rfl, hfz, hnd⟩ := hW
  have hA : DataW.TrodAll enc Try.prog W 0 (fun _ => true) true Try.f6.params.toList args.toList ds p := hA0
  rw [Try.params6] at hA hval
  obtain ⟨v0, vs0, d0, ds0, p0, q0, hargs, rfl, rfl, h0, r0⟩ := trodAll_cons hA
  obtain ⟨rfl, rfl, rfl⟩ := trodAll_nil r0
  obtain rfl : args = #[v0] := by cases args; simp_all
  obtain ⟨rfl, rfl⟩ := trodVars_none hV
  obtain ⟨a0, len0, cap0, rfl⟩ := okWide_slice Try.underlying34 (hval 0 34 v0 rfl rfl)
  have k0 := h0
  have lt0 : ∀ x ∈ p0, x.block < W.heap.size := by obtain ⟨m, hm⟩ := k0; exact DataW.trod_lt m _ _ _ hm
  obtain ⟨z0, w0⟩ : ∃ zs, IsRow .u8 W a0 len0 cap0 zs := by
    obtain ⟨fuel, hf⟩ := h0
    rcases open_ints Try.underlying34 Try.underlying5 (by kernel_rfl) hf with ⟨hcs, _⟩ | ⟨x, l, c, zs, hcs, _, hl, hm, hz, _, hcell, hwz⟩
    · simp [Value.cells] at hcs
      obtain ⟨rfl, rfl, rfl⟩ := hcs
      exact ⟨[], .inl ⟨rfl, rfl, rfl, rfl⟩⟩
    · simp [Value.cells] at hcs
      obtain ⟨rfl, rfl, rfl⟩ := hcs
      exact ⟨zs, .inr ⟨_, rfl, hl, hm, by simpa using hz, hcell, hwz⟩⟩
  clear hA0 hval0
  refine (walk a0 len0 cap0 z0 W w0).mono fun e W' ⟨he, bel⟩ => ?_
  subst he
  exact ⟨_, rfl, _, _, _, [], _, [], hW', trodAll_mk1 (shut_bool Try.underlying4 _), (trodAll_cons_mk (Below.trod laidOut (by kernel_rfl) (of_decide_eq_true (by kernel_rfl)) k0 bel lt0) trodAll_mk0), rfl, bel.frame _, fun h => by cases h⟩

theorem over : Rows.fnExpressionsRow.holds Try.pinned (OpenSpec.ofChange Rows.fnExpressionsSpec) :=
  OpenClaim.holds_of_wide 6 Try.f6 rfl rfl rfl rfl rfl rfl rfl ⟨rfl, rfl, rfl, rfl, rfl⟩ rfl rfl rfl rfl rfl (by kernel_rfl) Try.func6 (by kernel_rfl)
    (of_decide_eq_true (by kernel_rfl)) (by unfold Func.isWrapper; first | (rw [if_pos (by decide +kernel)]; kernel_rfl) | (rw [if_neg (by decide +kernel)]; exact ⟨rfl, rfl⟩))
    (fun os started H enc _ => lifted os started H enc)

/-- ████ THE STATEMENT ████ -/
theorem proved : Rows.FnExpressionsSaid := over
#print axioms proved
end Go.Proofs.Ytnpofcalghdaaaa.fnExpressions
