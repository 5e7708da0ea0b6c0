/- For any trace FnExactTraceCost returns true and leaves its arguments as they were; no condition. -/
import Derived.Test.YtcmhiadaebpgmaaRows
import Derived.WalkKit
import Derived.ProofKit
import Derived.OpenShut
import Derived.ShutString
import Derived.ChangeOld
import Derived.Below
import Derived.Test.YtcmhiadaebpgmaaTrcE
import Derived.Test.YtcmhiadaebpgmaaTrcQ
import Derived.Test.YtcmhiadaebpgmaaTrcI
import Derived.Deep.RegionHeld3
import Derived.Deep.RegionLaw
namespace Go.Proofs.Ytcmhiadaebpgmaa.fnExactTraceCost
open Go.ChangeShapes Go.WideShapes Go.ChangeAt Go.RowKit
open Go.ChangeMaps (open_string shut_string)
set_option linter.unusedVariables false

theorem own : ownKnob Try.prog.godebug = none := by kernel_rfl
theorem laidOut : laidOutB Try.prog = true := by kernel_rfl

open Go.Proofs.Ytcmhiadaebpgmaa.row Go.Proofs.Ytcmhiadaebpgmaa.val Go.Proofs.Ytcmhiadaebpgmaa.expr Go.Proofs.Ytcmhiadaebpgmaa.opn Go.Proofs.Ytcmhiadaebpgmaa.grow Go.Proofs.Ytcmhiadaebpgmaa.wrt Go.Proofs.Ytcmhiadaebpgmaa.trc
set_option maxHeartbeats 8000000 in
set_option maxRecDepth 100000 in
theorem walk (x0v : Value) (w : World) (w0 : IsTraceV w x0v) :
    Calls Try.prog 3 #[x0v] w fun e w' => e = .returned (.bool true) ∧ Below w.heap.size w w' := by
  obtain ⟨a1, n1, c1, a2, n2, c2, M, U, rfl, hm1, hm2, hM, hU, hok⟩ := w0
  have HR := Lib.hid (And.intro hM (And.intro hU hok))
  have hlM : M.length = n1 := hM.1
  clear hM hU hok
  obtain ⟨W, hW⟩ : ∃ W, w.alloc (.cells #[.slice a1 n1 c1, .slice a2 n2 c2] 25) = W := ⟨_, rfl⟩
  have hBW : Below w.heap.size w W := by rw [← hW]; exact below_new w _
  have hx : Box w.heap.size #[.slice a1 n1 c1, .slice a2 n2 c2] 25 W := by rw [← hW]; exact Box.new w _ _
  have hWl : w.heap.size < W.heap.size := hx.lt
  have H0 := Lib.hid (And.intro hBW hx)
  clear hBW hx
  obtain ⟨q, hq⟩ : ∃ q, costW (csts M) = q := ⟨_, rfl⟩
  have hqq : (q != q) = false := by simp
  go_enter Try.func3, Try.ntmps3
  go_wp2_with (first
    | (refine wpList_load_row rfl 25 _ rfl w.heap.size rfl _ _ _ _ H0.out.2 Try.underlying25 rfl (by kernel_rfl) ?_)
    | (go_at_call 6; (with_reducible refine (sztrace_any _ a1 n1 c1 a2 n2 c2 hm1 hm2 1048576 (by decide) (by decide)).mono ?_); rintro e x1 ⟨r1, rfl, hr0, hr1, hrS, hb⟩; refine Hid.out ?_))
  have H1 := Lib.hid hb
  clear hb
  by_cases hneg : r1 < 0
  · refine Lib.hid ?_
    go_wp2
    go_ret
    exact ⟨rfl, H0.out.1.trans (H1.out.mono H0.out.1.size)⟩
  obtain ⟨hz1, hz2⟩ := hrS.out (by omega)
  clear hrS
  have HX := Lib.hid (show ∀ w', Below W.heap.size W w' → Box w.heap.size #[.slice a1 n1 c1, .slice a2 n2 c2] 25 w' from fun w' hb => H0.out.2.below hb)
  have HTR := Lib.hid (show ∀ w', Below W.heap.size W w' → TrRow w' a1 n1 a2 n2 M U from fun w' hb => ⟨HR.out.1.below (H0.out.1.trans (hb.mono H0.out.1.size)), HR.out.2.1.below (H0.out.1.trans (hb.mono H0.out.1.size)), hz1, hz2⟩)
  have HT := Lib.hid (show ∀ w', Below W.heap.size W w' → Calls Try.prog 8 #[.agg #[.slice a1 n1 c1, .slice a2 n2 c2]] w' (MadeTr w' n1 n2 M U) from fun w' hb => totrace_new w' a1 n1 c1 a2 n2 c2 M U (HTR.out w' hb))
  have HSP := Lib.hid (show ∀ w' g1 g2, TrRow w' (some ⟨g1, 0, none⟩) n1 (some ⟨g2, 0, none⟩) n2 M U → Calls Try.prog 7 #[.agg #[.slice (some ⟨g1, 0, none⟩) n1 n1, .slice (some ⟨g2, 0, none⟩) n2 n2]] w' (BelI w' q) from fun w' g1 g2 h => spec_tracecost w' _ n1 n1 _ n2 n2 M U h q hq)
  have HIP := Lib.hid (show ∀ w' g1 g2, TrRow w' (some ⟨g1, 0, none⟩) n1 (some ⟨g2, 0, none⟩) n2 M U → Calls Try.prog 9 #[.agg #[.slice (some ⟨g1, 0, none⟩) n1 n1, .slice (some ⟨g2, 0, none⟩) n2 n2]] w' (BelI w' q) from fun w' g1 g2 h => impl_tracecost w' _ n1 n1 _ n2 n2 M U (Nat.le_refl _) h HR.out.2.2 q hq)
  have HMR := Lib.hid (show ∀ (w' : World) (g1 g2 B : Nat), Box g1 (microsC M).toArray 43 w' → w'.ownsRow B 3 1 (.slice (some ⟨g2, 0, none⟩) n2 n2) n2 (ivs U) → TrRow w' (some ⟨g1, 0, none⟩) n1 (some ⟨g2, 0, none⟩) n2 M U from fun w' g1 g2 B h1 h2 => ⟨GRow.of_box microC_len h1 hlM, Row.of_own h2, hz1, hz2⟩)
  -- the model
  have HX1 := Lib.hid (HX.out x1 H1.out)
  refine Lib.hid ?_
  go_wp2_with (first
    | (refine wpList_load_row rfl 25 _ rfl w.heap.size rfl _ _ _ _ HX1.out Try.underlying25 rfl (by kernel_rfl) ?_)
    | (go_at_call 8; (with_reducible refine (HT.out _ H1.out).mono ?_); rintro e x2 ⟨g1, g2, rfl, hg, hbx, ho, hb⟩; refine Hid.out ?_))
  have HR2 := Lib.hid (HMR.out _ _ _ _ hbx ho)
  have H2 := Lib.hid (below_then H1.out hb)
  clear hg hbx ho hb HX1
  refine Lib.hid ?_
  go_wp2_with (go_at_call 7; (with_reducible refine (HSP.out _ _ _ HR2.out).mono ?_); rintro e x3 ⟨rfl, hb⟩; refine Hid.out ?_)
  have H3 := Lib.hid (below_then H2.out hb)
  clear hb
  have HX3 := Lib.hid (HX.out x3 H3.out)
  refine Lib.hid ?_
  go_wp2_with (first
    | (refine wpList_load_row rfl 25 _ rfl w.heap.size rfl _ _ _ _ HX3.out Try.underlying25 rfl (by kernel_rfl) ?_)
    | (go_at_call 8; (with_reducible refine (HT.out _ H3.out).mono ?_); rintro e x4 ⟨g3, g4, rfl, hg, hbx, ho, hb⟩; refine Hid.out ?_))
  have hs4 : x3.heap.size ≤ x4.heap.size := hb.size
  obtain ⟨hg3l, hg4l, hg34⟩ := hg
  have hg3 : g3 < x4.heap.size := hbx.lt
  have hg4 : g4 < x4.heap.size := (ho.lt g4 rfl).2
  have He := Lib.hid (And.intro (Box.new x4 zero2T 30) (And.intro (below_new x4 (.cells zero2T 30)) (And.intro hbx (And.intro ho (below_then H3.out hb)))))
  clear hbx ho hb HX3
  refine Lib.hid ?_
  go_wp2_with ((refine wpList_store_box rfl 30 _ _ rfl x4.heap.size _ _ He.out.1 #[.slice (some ⟨g3, 0, none⟩) n1 n1, .slice (some ⟨g4, 0, none⟩) n2 n2] rfl rfl rfl (by kernel_rfl) (by simp [Value.oneCell']) ?_); intro x5 hx hg5; refine Hid.out ?_)
  have hb : Below x4.heap.size x4 x5 := He.out.2.1.grown hg5 He.out.2.1.size (fun j hj => by cases hj; exact Nat.le_refl _)
  have hs5 : x4.heap.size < x5.heap.size := hx.lt
  obtain ⟨ge, hge⟩ : ∃ g, x4.heap.size = g := ⟨_, rfl⟩
  rw [hge] at hx hs4 hg3 hg4 hs5 ⊢
  have H5 := Lib.hid (And.intro (below_then He.out.2.2.2.2 hb) (And.intro hx (And.intro (He.out.2.2.1.below hb) (He.out.2.2.2.1.kept (grown_below hb none) (by simp [Value.ownBlock])))))
  clear hx hg5 hb hge He
  have HR5 := Lib.hid (HMR.out _ _ _ _ H5.out.2.2.1 H5.out.2.2.2)
  refine Lib.hid ?_
  go_wp2_with (first
    | (refine wpList_load_row rfl 30 _ rfl ge rfl _ _ _ _ H5.out.2.1 Try.underlying30 rfl (by kernel_rfl) ?_)
    | (go_at_call 9; (with_reducible refine (HIP.out _ _ _ HR5.out).mono ?_); rintro e x6 ⟨rfl, hb⟩; refine Hid.out ?_))
  have H6 := Lib.hid (And.intro (below_then H5.out.1 hb) (And.intro (H5.out.2.1.below hb) (And.intro (H5.out.2.2.1.below hb) (H5.out.2.2.2.kept (grown_below hb none) (by simp [Value.ownBlock])))))
  clear hb HR5
  have HD := Lib.hid (show Below x6.heap.size x6 x6.drew from Below.drew (Below.refl _ x6))
  have KEEP := Lib.hid (show ∀ w', Below x6.heap.size x6 w' → w'.cell? ⟨ge, 0, none⟩ = some (.slice (some ⟨g3, 0, none⟩) n1 n1) ∧ w'.cell? ⟨ge, 1, none⟩ = some (.slice (some ⟨g4, 0, none⟩) n2 n2) ∧ w'.cell? ⟨w.heap.size, 0, none⟩ = some (.slice a1 n1 c1) ∧ w'.cell? ⟨w.heap.size, 1, none⟩ = some (.slice a2 n2 c2) from fun w' hb => ⟨(H6.out.2.1.below hb).cell 0, (H6.out.2.1.below hb).cell 1, (HX.out w' (below_then H6.out.1 hb)).cell 0, (HX.out w' (below_then H6.out.1 hb)).cell 1⟩)
  have HTD := Lib.hid (HT.out x6.drew (below_then H6.out.1 HD.out))
  have HEQ := Lib.hid (show ∀ w' g1 g2, Below x6.heap.size x6 w' → TrRow w' (some ⟨g1, 0, none⟩) n1 (some ⟨g2, 0, none⟩) n2 M U → Calls Try.prog 10 #[.agg #[.slice (some ⟨g3, 0, none⟩) n1 n1, .slice (some ⟨g4, 0, none⟩) n2 n2], .agg #[.slice (some ⟨g1, 0, none⟩) n1 n1, .slice (some ⟨g2, 0, none⟩) n2 n2]] w' (BelB w' true) from fun w' g1 g2 hb h => eqtrace_any w' M U _ n1 n1 _ n2 n2 _ n1 _ n2 (HMR.out _ _ _ _ (H6.out.2.2.1.below hb) (H6.out.2.2.2.kept (grown_below hb none) (by simp [Value.ownBlock]))) h)
  obtain ⟨sw0, sw1, sw2, sw3⟩ := KEEP.out _ HD.out
  refine Lib.hid ?_
  go_wp2
  go_region_law (first
    | (go_simp; go_at_call 8; (with_reducible refine HTD.out.mono ?_); rintro e y1 ⟨g5, g6, rfl, hg, hbx, ho, hb⟩; have hb1 := below_then HD.out hb; obtain ⟨sx0, sx1, sx2, sx3⟩ := KEEP.out _ hb1; have hr1 := HMR.out _ _ _ _ hbx ho)
    | (go_simp; go_at_call 10; (with_reducible refine (HEQ.out _ _ _ hb1 hr1).mono ?_); rintro e y2 ⟨rfl, hb2⟩))
  all_goals
    have hb3 := below_then hb1 hb2
    clear hb2 hr1 hb1 hbx ho hb hg sw0 sw1 sw2 sw3 sx0 sx1 sx2 sx3 y1
    revert hb3
    revert y2
    revert g6
    revert g5
    refine ?same
  case same =>
    intro g5 g6 y2 hb3
    have HF := Lib.hid (H0.out.1.trans ((below_then H6.out.1 hb3).mono H0.out.1.size))
    clear hb3
    refine Lib.hid ?_
    go_wp2
    go_ret
    exact ⟨rfl, HF.out⟩

/-! ### THE ROW's STEP -/
set_option maxRecDepth 100000 in
theorem lifted (os : Os) (started : os.Started) (H : Type) (enc : TypeId × Value → H) :
    ReturnsInHanded {} Try.checked os 3 .any (Rows.fnExactTraceCostSpec.pre6 enc Try.prog Try.f3 Rows.fnExactTraceCostRow.domain false) (Rows.fnExactTraceCostSpec.post enc Try.prog Try.f3 false true false false) := by
  refine returnsInHanded_of_change (C := Try.checked) own started (by kernel_rfl) Try.func3
    (ChangeSpec.witness6 (enc := enc) (C := Try.checked) false ⟨#[], #[.agg #[.slice none 0 0, .slice none 0 0]], []⟩ 8 (by kernel_rfl) (by kernel_rfl) (by kernel_rfl) (by kernel_rfl)) ?_
  intro W base args ds gs before hval0 hW hcnd _
  have hval : ∀ (j : Nat) t v, Try.f3.params[j]? = some t → args[j]? = some v → Value.okWide Try.prog W .any base t v := hval0
  have hW' := hW
  obtain ⟨p, q, hA0, hV, rfl, hfz, hnd⟩ := hW
  have hA : DataW.TrodAll enc Try.prog W 0 (fun _ => true) true Try.f3.params.toList args.toList ds p := hA0
  rw [Try.params3] at hA hval
  obtain ⟨v0, vs0, d0, ds0, p0, q0, hargs, rfl, rfl, h0, r0⟩ := trodAll_cons hA
  obtain ⟨rfl, rfl, rfl⟩ := trodAll_nil r0
  obtain rfl : args = #[v0] := by cases args; simp_all
  obtain ⟨rfl, rfl⟩ := trodVars_none hV
  have k0 := h0
  have lt0 : ∀ x ∈ p0, x.block < W.heap.size := by obtain ⟨m, hm⟩ := k0; exact DataW.trod_lt m _ _ _ hm
  have w0 : IsTraceV W v0 := open_Trace (hval 0 25 v0 rfl rfl) h0
  clear hA0 hval0
  refine (walk v0 W w0).mono fun e W' ⟨he, bel⟩ => ?_
  subst he
  exact ⟨_, rfl, _, _, _, [], _, [], hW', trodAll_mk1 (shut_bool Try.underlying4 _), (trodAll_cons_mk (Below.trod laidOut (by kernel_rfl) (of_decide_eq_true (by kernel_rfl)) k0 bel lt0) trodAll_mk0), rfl, bel.frame _, fun h => by cases h⟩

theorem over : Rows.fnExactTraceCostRow.holds Try.pinned (OpenSpec.ofChange Rows.fnExactTraceCostSpec) :=
  OpenClaim.holds_of_wide 3 Try.f3 rfl rfl rfl rfl rfl rfl rfl ⟨rfl, rfl, rfl, rfl, rfl⟩ rfl rfl rfl rfl rfl (by kernel_rfl) Try.func3 (by kernel_rfl)
    (of_decide_eq_true (by kernel_rfl)) (by unfold Func.isWrapper; first | (rw [if_pos (by decide +kernel)]; kernel_rfl) | (rw [if_neg (by decide +kernel)]; exact ⟨rfl, rfl⟩))
    (fun os started H enc _ => lifted os started H enc)

/-- ████ THE STATEMENT ████ -/
theorem proved : Rows.FnExactTraceCostSaid := over
#print axioms proved
end Go.Proofs.Ytcmhiadaebpgmaa.fnExactTraceCost
