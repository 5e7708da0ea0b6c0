/- For every boot FnExactBootTasks returns true and leaves its argument as it was; no condition. -/
import Derived.Test.YtmgeecdgebemdaaRows
import Derived.WalkKit
import Derived.ProofKit
import Derived.OpenShut
import Derived.ShutString
import Derived.ChangeOld
import Derived.Below
import Derived.Test.YtmgeecdgebemdaaBotO
import Derived.Test.YtmgeecdgebemdaaBotL
import Derived.Test.YtmgeecdgebemdaaBotT
import Derived.Deep.RegionHeld3
namespace Go.Proofs.Ytmgeecdgebemdaa.fnExactBootTasks
open Go.ChangeShapes Go.WideShapes Go.ChangeAt Go.RowKit
open Go.ChangeMaps (open_string shut_string)
set_option linter.unusedVariables false

theorem own : ownKnob Try.prog.godebug = none := by kernel_rfl
theorem laidOut : laidOutB Try.prog = true := by kernel_rfl

open Go.Proofs.Ytmgeecdgebemdaa.row Go.Proofs.Ytmgeecdgebemdaa.val Go.Proofs.Ytmgeecdgebemdaa.expr Go.Proofs.Ytmgeecdgebemdaa.opn Go.Proofs.Ytmgeecdgebemdaa.srow Go.Proofs.Ytmgeecdgebemdaa.bot
set_option maxHeartbeats 8000000 in
set_option maxRecDepth 100000 in
theorem walk (x0v : Value) (w : World) (w0 : IsBotV w x0v) :
    Calls Try.prog 3 #[x0v] w fun e w' => e = .returned (.bool true) ∧ Below w.heap.size w w' := by
  obtain ⟨a1, n1, c1, a2, n2, c2, V, U, z, en, rfl, hm1, hm2, hmm, hV, hU⟩ := w0
  have HR := Lib.hid (And.intro hV (And.intro hU hmm))
  clear hV hU hmm
  obtain ⟨W, hW⟩ : ∃ W, w.alloc (.cells #[.slice a1 n1 c1, .int .i64 z, .slice a2 n2 c2, .int .i64 en] 25) = W := ⟨_, rfl⟩
  have hBW : Below w.heap.size w W := by rw [← hW]; exact below_new w _
  have hx : Box w.heap.size #[.slice a1 n1 c1, .int .i64 z, .slice a2 n2 c2, .int .i64 en] 25 W := by rw [← hW]; exact Box.new w _ _
  have hWl : w.heap.size < W.heap.size := hx.lt
  have H0 := Lib.hid (And.intro hBW hx)
  clear hBW hx
  go_enter Try.func3, Try.ntmps3
  go_wp2_with (first
    | (refine wpList_load_row rfl 25 _ rfl w.heap.size rfl _ _ _ _ H0.out.2 Try.underlying25 rfl (by kernel_rfl) ?_)
    | (go_at_call 4; (with_reducible refine (szboot_any _ a1 n1 c1 a2 n2 c2 z en U hm1 hm2 HR.out.2.2 (HR.out.2.1.below H0.out.1) 1048576 (by decide) (by decide)).mono ?_); rintro e x1 ⟨r1, rfl, hr0, hr1, hrS, hb⟩; refine Hid.out ?_))
  have H1 := Lib.hid (And.intro (H0.out.2.below hb) hb)
  clear hb
  by_cases hneg : r1 < 0
  · refine Lib.hid ?_
    go_wp2
    go_ret
    exact ⟨rfl, H0.out.1.trans (H1.out.2.mono H0.out.1.size)⟩
  obtain ⟨hz1, hz2⟩ := hrS.out (by omega)
  have HZ := Lib.hid hz2
  have hn2 : (n2 : Int) ≤ 1048576 := by have h1 := hz2.1; have h2 := HR.out.2.1.1; omega
  have HB1 := Lib.hid (below_then H0.out.1 H1.out.2)
  clear hrS hz2
  have HC := Lib.hid (show ∀ w', Below w.heap.size w w' → Calls Try.prog 6 #[.agg #[.slice a1 n1 c1, .int .i64 z, .slice a2 n2 c2, .int .i64 en]] w' (ToBot w' n1 z n2 en V U) from fun w' hb => toboot_any w' a1 n1 c1 a2 n2 c2 z en V U hz1 HZ.out (HR.out.1.below hb) (HR.out.2.1.below hb))
  refine Lib.hid ?_
  go_wp2_with (first
    | (refine wpList_load_row rfl 25 _ rfl w.heap.size rfl _ _ _ _ H1.out.1 Try.underlying25 rfl (by kernel_rfl) ?_)
    | (go_at_call 6; (with_reducible refine (HC.out _ HB1.out).mono ?_); rintro e x2 ⟨am, cm, au, cu, rfl, hrs, hb⟩; refine Hid.out ?_))
  have H2 := Lib.hid (And.intro (below_then HB1.out hb) (H1.out.1.below hb))
  clear hb hrs HB1 H1
  refine Lib.hid ?_
  go_wp2_with (first
    | (refine wpList_load_row rfl 25 _ rfl w.heap.size rfl _ _ _ _ (H2.out.2.below hb3) Try.underlying25 rfl (by kernel_rfl) ?_)
    | (go_at_call 5; (with_reducible refine (spec_boottasks _ am n1 cm z au n2 cu en hn2).mono ?_); rintro e x3 ⟨rfl, hb3⟩)
    | (go_at_call 6; (with_reducible refine (HC.out _ (below_then H2.out.1 hb3)).mono ?_); rintro e x4 ⟨am4, cm4, au4, cu4, rfl, hrs, hb4⟩; refine Hid.out ?_))
  have H4 := Lib.hid (And.intro (below_then (below_then H2.out.1 hb3) hb4) (And.intro ((H2.out.2.below hb3).below hb4) (And.intro (Box.new x4 zero4B 28) (And.intro (below_new x4 (.cells zero4B 28)) hrs.out))))
  clear hb3 hb4 hrs H2
  refine Lib.hid ?_
  go_wp2_with ((refine wpList_store_box rfl 28 _ _ rfl x4.heap.size _ _ H4.out.2.2.1 #[.slice am4 n1 cm4, .int .i64 z, .slice au4 n2 cu4, .int .i64 en] rfl rfl rfl (by kernel_rfl) (by simp [Value.oneCell']) ?_); intro x5 hx hg; refine Hid.out ?_)
  have hb : Below x4.heap.size x4 x5 := H4.out.2.2.2.1.grown hg H4.out.2.2.2.1.size (fun j hj => by cases hj; exact Nat.le_refl _)
  obtain ⟨ge, hge⟩ : ∃ g, x4.heap.size = g := ⟨_, rfl⟩
  have H5 := Lib.hid (And.intro (below_then H4.out.1 hb) (And.intro (H4.out.2.1.below hb) (And.intro hx (And.intro (H4.out.2.2.2.2.1.below hb) (H4.out.2.2.2.2.2.below hb)))))
  rw [hge] at H5 ⊢
  clear hx hg hb hge H4
  refine Lib.hid ?_
  go_wp2_with (first
    | (refine wpList_load_row rfl 28 _ rfl ge rfl _ _ _ _ H5.out.2.2.1 Try.underlying28 rfl (by kernel_rfl) ?_)
    | (go_at_call 7; (with_reducible refine (impl_boottasks _ am4 n1 cm4 z au4 n2 cu4 en hn2).mono ?_); rintro e x6 ⟨rfl, hb⟩; refine Hid.out ?_))
  have H6 := Lib.hid (And.intro (below_then H5.out.1 hb) (And.intro (H5.out.2.1.below hb) (And.intro (H5.out.2.2.1.below hb) (And.intro (H5.out.2.2.2.1.below hb) (H5.out.2.2.2.2.below hb)))))
  clear hb H5
  have HD := Lib.hid (show Below x6.heap.size x6 x6.drew from Below.drew (Below.refl _ x6))
  have KEEP := Lib.hid (show ∀ w', Below x6.heap.size x6 w' → (w'.cell? ⟨ge, 0, none⟩ = some (.slice am4 n1 cm4) ∧ w'.cell? ⟨ge, 1, none⟩ = some (.int .i64 z) ∧ w'.cell? ⟨ge, 2, none⟩ = some (.slice au4 n2 cu4) ∧ w'.cell? ⟨ge, 3, none⟩ = some (.int .i64 en)) ∧ (w'.cell? ⟨w.heap.size, 0, none⟩ = some (.slice a1 n1 c1) ∧ w'.cell? ⟨w.heap.size, 1, none⟩ = some (.int .i64 z) ∧ w'.cell? ⟨w.heap.size, 2, none⟩ = some (.slice a2 n2 c2) ∧ w'.cell? ⟨w.heap.size, 3, none⟩ = some (.int .i64 en)) from fun w' hb => ⟨⟨(H6.out.2.2.1.below hb).cell 0, (H6.out.2.2.1.below hb).cell 1, (H6.out.2.2.1.below hb).cell 2, (H6.out.2.2.1.below hb).cell 3⟩, ⟨(H6.out.2.1.below hb).cell 0, (H6.out.2.1.below hb).cell 1, (H6.out.2.1.below hb).cell 2, (H6.out.2.1.below hb).cell 3⟩⟩)
  have hne : ((n2 : Int) != (n2 : Int)) = false := by simp
  refine Lib.hid ?_
  go_wp2
  refine wp_region_held_drew (S := (fun w' => (w'.cell? ⟨ge, 0, none⟩ = some (.slice am4 n1 cm4) ∧ w'.cell? ⟨ge, 1, none⟩ = some (.int .i64 z) ∧ w'.cell? ⟨ge, 2, none⟩ = some (.slice au4 n2 cu4) ∧ w'.cell? ⟨ge, 3, none⟩ = some (.int .i64 en)) ∧ (w'.cell? ⟨w.heap.size, 0, none⟩ = some (.slice a1 n1 c1) ∧ w'.cell? ⟨w.heap.size, 1, none⟩ = some (.int .i64 z) ∧ w'.cell? ⟨w.heap.size, 2, none⟩ = some (.slice a2 n2 c2) ∧ w'.cell? ⟨w.heap.size, 3, none⟩ = some (.int .i64 en)))) (by kernel_rfl) (KEEP.out _ HD.out) (fun hHeld => ?_)
  obtain ⟨y0, hy0⟩ : ∃ z, x6.drew = z := ⟨_, rfl⟩
  have hb0 : Below x6.heap.size x6 y0 := by rw [← hy0]; exact HD.out
  rw [hy0] at hHeld ⊢
  clear hy0
  refine wpAnyH_take (i := 0) (v := botV am4 n1 cm4 z au4 n2 cu4 en) rfl (by kernel_rfl) (by kernel_rfl) (by kernel_rfl) (fun _ _ _ h => h) (Or.inl ⟨by rfl, (by intro w' hSw; (try dsimp only at hSw); go_simp)⟩) (by assumption) ?_
  try simp only [Act.put, List.getElem_toArray, List.getElem_cons_zero, List.setIfInBounds_toArray, List.set_cons_zero, List.set_cons_succ]
  refine wpAnyH_take (i := 1) (v := .agg #[.slice a1 n1 c1, .int .i64 z, .slice a2 n2 c2, .int .i64 en]) rfl (by kernel_rfl) (by kernel_rfl) (by kernel_rfl) (fun _ _ _ h => h) (Or.inl ⟨by rfl, (by intro w' hSw; (try dsimp only at hSw); go_simp)⟩) (by assumption) ?_
  try simp only [Act.put, List.getElem_toArray, List.getElem_cons_zero, List.getElem_cons_succ, List.setIfInBounds_toArray, List.set_cons_zero, List.set_cons_succ]
  refine wpAnyH_ready (rs := [2]) (by kernel_rfl) (by simp) ?_
  refine AllReadyH.cons rfl (fun K hK => ?_) AllReadyH.nil
  rw [if_pos (by kernel_rfl)]
  go_simp
  go_at_call 6
  refine (HC.out y0 (below_then H6.out.1 hb0)).mono ?_
  rintro e y1 ⟨am7, cm7, au7, cu7, rfl, hrs, hbc⟩
  have hb1 : Below x6.heap.size x6 y1 := below_then hb0 hbc
  have HS1 := Lib.hid hrs.out
  clear hrs hbc
  refine hK.out _ _ (KEEP.out _ hb1) (fun hHeld1 => ?_)
  clear hK K hHeld
  have hHeld := hHeld1
  clear hHeld1
  try simp only [Act.put, List.getElem_toArray, List.getElem_cons_zero, List.getElem_cons_succ, List.setIfInBounds_toArray, List.set_cons_zero, List.set_cons_succ]
  refine wpAnyH_ready (rs := [3]) (by kernel_rfl) (by simp) ?_
  refine AllReadyH.cons rfl (fun K hK => ?_) AllReadyH.nil
  rw [if_pos (by kernel_rfl)]
  go_simp
  go_at_call 8
  refine (eqboot_any y1 am4 n1 cm4 au4 n2 cu4 am7 cm7 au7 cu7 z en V U hz1 HZ.out (H6.out.2.2.2.1.below hb1) (H6.out.2.2.2.2.below hb1) HS1.out.1 HS1.out.2).mono ?_
  rintro e y2 ⟨rfl, hbc⟩
  have hb2 := below_then hb1 hbc
  clear hbc
  refine hK.out _ _ (KEEP.out _ hb2) (fun hHeld1 => ?_)
  clear hK K hHeld
  have hHeld := hHeld1
  clear hHeld1
  try simp only [Act.put, List.getElem_toArray, List.getElem_cons_zero, List.getElem_cons_succ, List.setIfInBounds_toArray, List.set_cons_zero, List.set_cons_succ]
  refine wpAnyH_take (i := 4) (v := .bool false) rfl (by kernel_rfl) (by kernel_rfl) (by kernel_rfl) (fun _ _ _ h => h) (Or.inl ⟨by rfl, (by intro w' hSw; (try dsimp only at hSw); go_simp)⟩) (by assumption) ?_
  try simp only [Act.put, List.getElem_toArray, List.getElem_cons_zero, List.getElem_cons_succ, List.setIfInBounds_toArray, List.set_cons_zero, List.set_cons_succ]
  refine wpAnyH_done (by kernel_rfl) ?_ _
  have HF := Lib.hid (below_then H6.out.1 hb2)
  clear hHeld hb1 hb2
  refine Lib.hid ?_
  go_wp2
  go_ret
  exact ⟨rfl, HF.out⟩

/-! ### THE ROW's STEP -/
set_option maxRecDepth 100000 in
theorem lifted (os : Os) (started : os.Started) (H : Type) (enc : TypeId × Value → H) :
    ReturnsInHanded {} Try.checked os 3 .any (Rows.fnExactBootTasksSpec.pre6 enc Try.prog Try.f3 Rows.fnExactBootTasksRow.domain false) (Rows.fnExactBootTasksSpec.post enc Try.prog Try.f3 false true false false) := by
  refine returnsInHanded_of_change (C := Try.checked) own started (by kernel_rfl) Try.func3
    (ChangeSpec.witness6 (enc := enc) (C := Try.checked) false ⟨#[], #[.agg #[.slice none 0 0, .int .i64 0, .slice none 0 0, .int .i64 0]], []⟩ 8 (by kernel_rfl) (by kernel_rfl) (by kernel_rfl) (by kernel_rfl)) ?_
  intro W base args ds gs before hval0 hW hcnd _
  have hval : ∀ (j : Nat) t v, Try.f3.params[j]? = some t → args[j]? = some v → Value.okWide Try.prog W .any base t v := hval0
  have hW' := hW
  obtain ⟨p, q, hA0, hV, rfl, hfz, hnd⟩ := hW
  have hA : DataW.TrodAll enc Try.prog W 0 (fun _ => true) true Try.f3.params.toList args.toList ds p := hA0
  rw [Try.params3] at hA hval
  obtain ⟨v0, vs0, d0, ds0, p0, q0, hargs, rfl, rfl, h0, r0⟩ := trodAll_cons hA
  obtain ⟨rfl, rfl, rfl⟩ := trodAll_nil r0
  obtain rfl : args = #[v0] := by cases args; simp_all
  obtain ⟨rfl, rfl⟩ := trodVars_none hV
  have k0 := h0
  have lt0 : ∀ x ∈ p0, x.block < W.heap.size := by obtain ⟨m, hm⟩ := k0; exact DataW.trod_lt m _ _ _ hm
  have w0 : IsBotV W v0 := open_Boot (hval 0 25 v0 rfl rfl) h0
  clear hA0 hval0
  refine (walk v0 W w0).mono fun e W' ⟨he, bel⟩ => ?_
  subst he
  exact ⟨_, rfl, _, _, _, [], _, [], hW', trodAll_mk1 (shut_bool Try.underlying4 _), (trodAll_cons_mk (Below.trod laidOut (by kernel_rfl) (of_decide_eq_true (by kernel_rfl)) k0 bel lt0) trodAll_mk0), rfl, bel.frame _, fun h => by cases h⟩

theorem over : Rows.fnExactBootTasksRow.holds Try.pinned (OpenSpec.ofChange Rows.fnExactBootTasksSpec) :=
  OpenClaim.holds_of_wide 3 Try.f3 rfl rfl rfl rfl rfl rfl rfl ⟨rfl, rfl, rfl, rfl, rfl⟩ rfl rfl rfl rfl rfl (by kernel_rfl) Try.func3 (by kernel_rfl)
    (of_decide_eq_true (by kernel_rfl)) (by unfold Func.isWrapper; first | (rw [if_pos (by decide +kernel)]; kernel_rfl) | (rw [if_neg (by decide +kernel)]; exact ⟨rfl, rfl⟩))
    (fun os started H enc _ => lifted os started H enc)

/-- ████ THE STATEMENT ████ -/
theorem proved : Rows.FnExactBootTasksSaid := over
#print axioms proved
end Go.Proofs.Ytmgeecdgebemdaa.fnExactBootTasks
