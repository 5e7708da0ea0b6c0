/- For every program FnExactLogRoom returns true and leaves its arguments as they were; no condition. -/
import Derived.Test.YtebokjjeeedmjaaGreatRows
import Derived.WalkKit
import Derived.ProofKit
import Derived.OpenShut
import Derived.ShutString
import Derived.ChangeOld
import Derived.Below
import Derived.Test.YtebokjjeeedmjaaGreatGHub45
import Derived.Test.YtebokjjeeedmjaaGreatGHub47
import Derived.Deep.RegionHeld3
namespace Go.Proofs.YtebokjjeeedmjaaGreat.fnExactLogRoom
open Go.ChangeShapes Go.WideShapes Go.ChangeAt Go.RowKit
open Go.ChangeMaps (open_string shut_string)
set_option linter.unusedVariables false

theorem own : ownKnob Tryz.prog.godebug = none := by kernel_rfl
theorem laidOut : laidOutB Tryz.prog = true := by kernel_rfl

open Go.Proofs.YtebokjjeeedmjaaGreat.row Go.Proofs.YtebokjjeeedmjaaGreat.val Go.Proofs.YtebokjjeeedmjaaGreat.expr Go.Proofs.YtebokjjeeedmjaaGreat.opn Go.Proofs.YtebokjjeeedmjaaGreat.stm Go.Proofs.YtebokjjeeedmjaaGreat.blk Go.Proofs.YtebokjjeeedmjaaGreat.sets Go.Proofs.YtebokjjeeedmjaaGreat.prg
set_option maxHeartbeats 4000000 in
set_option maxRecDepth 100000 in
theorem walk (a0 : Value) (w : World) (w0 : IsPrgV w a0) :
    Calls Tryz.prog 3 #[a0] w fun e w' => e = .returned (.bool true) ∧ Below w.heap.size w w' := by
  obtain ⟨ad, n, cap, P, rfl, hnm, hbm, hR⟩ := w0
  obtain ⟨W, hW⟩ : ∃ W, W = w.alloc (.cells #[.slice ad n cap] 24) := ⟨_, rfl⟩
  have hbx : Box w.heap.size #[.slice ad n cap] 24 W := by rw [hW]; exact Box.new _ _ _
  have hbw : Below w.heap.size w W := by rw [hW]; exact below_new _ _
  have hwl : w.heap.size < W.heap.size := by rw [hW]; simp
  have HP := Lib.hid (And.intro hbw (And.intro (hR.below hbw) (And.intro hbm hbx)))
  have HW := Lib.hid hW.symm
  clear hbx hbw hR hbm hW
  go_enter Tryz.func3, Tryz.ntmps3
  go_wp2_with (go_at_call 4; rw [HW.out]; (with_reducible refine (szprogram_any _ ad n cap P hnm HP.out.2.2.1 HP.out.2.1).mono ?_); rintro e w1 ⟨r, rfl, hr0, hr1, hrS, hb1⟩; refine Hid.out ?_)
  have c1 : w1.cell? ⟨w.heap.size, 0, none⟩ = some (.slice ad n cap) := (HP.out.2.2.2.below hb1).cell 0
  have HB1 := Lib.hid hb1
  clear hb1
  by_cases hrn : r < 0
  · refine Lib.hid ?_
    go_wp2
    go_ret
    exact ⟨rfl, HP.out.1.trans (HB1.out.mono (Nat.le_of_lt hwl))⟩
  · have HZ := Lib.hid (hrS.out (by omega))
    obtain ⟨X, hX⟩ := room_ex P
    have HX := Lib.hid hX
    clear hX
    refine Lib.hid ?_
    go_wp2_with (go_at_call 6; (with_reducible refine (toprogram_any _ ad n cap P HZ.out (HP.out.2.1.below HB1.out)).mono ?_); rintro e w2 ⟨b2, rfl, hT2, hb2⟩; refine Hid.out ?_)
    have c2 : w2.cell? ⟨w.heap.size, 0, none⟩ = some (.slice ad n cap) := (hb2.cell (p := ⟨w.heap.size, 0, none⟩) (Nat.lt_of_lt_of_le hwl HB1.out.size)).trans c1
    have HB2 := Lib.hid (below_then HB1.out hb2)
    have HX2 := Lib.hid hT2.out.row
    clear hT2 hb2 c1
    refine Lib.hid ?_
    go_wp2_with (go_at_call 5; (with_reducible refine (spec_logroom b2 n n P HZ.out _ HX2.out X HX.out).mono ?_); rintro e w4 ⟨rfl, hb4⟩; refine Hid.out ?_)
    have c4 : w4.cell? ⟨w.heap.size, 0, none⟩ = some (.slice ad n cap) := (hb4.cell (p := ⟨w.heap.size, 0, none⟩) (Nat.lt_of_lt_of_le hwl HB2.out.size)).trans c2
    have HB4 := Lib.hid (below_then HB2.out hb4)
    clear hb4 c2
    refine Lib.hid ?_
    go_wp2_with (go_at_call 6; (with_reducible refine (toprogram_any _ ad n cap P HZ.out (HP.out.2.1.below HB4.out)).mono ?_); rintro e w5 ⟨b5, rfl, hT5, hb5⟩; refine Hid.out ?_)
    have c5 : w5.cell? ⟨w.heap.size, 0, none⟩ = some (.slice ad n cap) := (hb5.cell (p := ⟨w.heap.size, 0, none⟩) (Nat.lt_of_lt_of_le hwl HB4.out.size)).trans c4
    have HB5 := Lib.hid (below_then HB4.out hb5)
    have HA5 := Lib.hid (And.intro (Box.new w5 #[.slice none 0 0] 29) (below_new w5 (.cells #[.slice none 0 0] 29)))
    have HX5 := Lib.hid hT5.out
    have hs5 := HB5.out.size
    clear hT5 hb5 c4
    refine Lib.hid ?_
    go_wp2_with ((refine wpList_store_box rfl 29 _ _ rfl w5.heap.size _ _ HA5.out.1 #[.slice b5 n n] rfl rfl rfl (by kernel_rfl) (by simp [Value.oneCell']) ?_); intro w6 hx6 hg6; refine Hid.out ?_)
    have hb6 : Below w5.heap.size w5 w6 := HA5.out.2.grown hg6 HA5.out.2.size (fun j hj => by cases hj; exact Nat.le_refl _)
    have HX6 := Lib.hid (HX5.out.row.below hb6)
    have c6 : w6.cell? ⟨w.heap.size, 0, none⟩ = some (.slice ad n cap) := (hb6.cell (p := ⟨w.heap.size, 0, none⟩) (Nat.lt_of_lt_of_le hwl HB5.out.size)).trans c5
    have HB6 := Lib.hid (below_then HB5.out hb6)
    have HG6 := Lib.hid hx6.lt
    have g6 : w6.cell? ⟨w5.heap.size, 0, none⟩ = some (.slice b5 n n) := hx6.cell 0
    clear hx6 hg6 hb6 c5
    refine Lib.hid ?_
    go_wp2_with (go_at_call 7; (with_reducible refine (impl_logroom b5 n n P HZ.out (Nat.le_refl _) _ HX6.out X HX.out).mono ?_); rintro e w8 ⟨rfl, hb8⟩; refine Hid.out ?_)
    have c8 : w8.cell? ⟨w.heap.size, 0, none⟩ = some (.slice ad n cap) := (hb8.cell (p := ⟨w.heap.size, 0, none⟩) (Nat.lt_of_lt_of_le hwl HB6.out.size)).trans c6
    have HB8 := Lib.hid (below_then HB6.out hb8)
    have g8 : w8.cell? ⟨w5.heap.size, 0, none⟩ = some (.slice b5 n n) := (hb8.cell (p := ⟨w5.heap.size, 0, none⟩) HG6.out).trans g6
    have HG8 := Lib.hid (Nat.lt_of_lt_of_le HG6.out hb8.size)
    have HX8 := Lib.hid (HX6.out.below hb8)
    clear hb8 c6 g6
    have c8d : w8.drew.cell? ⟨w.heap.size, 0, none⟩ = some (.slice ad n cap) := c8
    have g8d : w8.drew.cell? ⟨w5.heap.size, 0, none⟩ = some (.slice b5 n n) := g8
    have l8 : w.heap.size < w8.drew.heap.size := Nat.lt_of_lt_of_le hwl HB8.out.size
    have m8 : w5.heap.size < w8.drew.heap.size := HG8.out
    have HD8 := Lib.hid (show Below w8.heap.size w8 w8.drew from Below.drew (Below.refl _ w8))
    refine Lib.hid ?_
    go_wp2
    go_region_held3 (fun w' => w'.cell? ⟨w.heap.size, 0, none⟩ = some (.slice ad n cap) ∧ w'.cell? ⟨w5.heap.size, 0, none⟩ = some (.slice b5 n n))
      (first
        | (with_reducible exact ⟨c8d, g8d⟩)
        | (with_reducible exact ⟨(hb10.cell (p := ⟨w.heap.size, 0, none⟩) (Nat.lt_of_lt_of_le l8 hb9.size)).trans ((hb9.cell (p := ⟨w.heap.size, 0, none⟩) l8).trans c8d), (hb10.cell (p := ⟨w5.heap.size, 0, none⟩) (Nat.lt_of_lt_of_le m8 hb9.size)).trans ((hb9.cell (p := ⟨w5.heap.size, 0, none⟩) m8).trans g8d)⟩)
        | (with_reducible exact ⟨(hb9.cell (p := ⟨w.heap.size, 0, none⟩) l8).trans c8d, (hb9.cell (p := ⟨w5.heap.size, 0, none⟩) m8).trans g8d⟩))
      (first
        | (go_at_call 6; (with_reducible refine (toprogram_any _ ad n cap P HZ.out (HP.out.2.1.below (HB8.out.trans (HD8.out.mono HB8.out.size)))).mono ?_); rintro e w9 ⟨b9, rfl, hT9, hb9⟩)
        | (go_at_call 8; (with_reducible refine (eqprogram_any _ b5 b9 n n n P HZ.out ((HX8.out.below HD8.out).below hb9) hT9.out.row).mono ?_); rintro e w10 ⟨rfl, hb10⟩))
    all_goals
      have HB10 := Lib.hid ((HB8.out.trans (HD8.out.mono HB8.out.size)).trans ((below_then hb9 hb10).mono (show W.heap.size ≤ w8.drew.heap.size from HB8.out.size)))
      clear hb9 hb10 hT9 c8d g8d c8 g8
      go_wp2
      go_ret
      exact ⟨rfl, HP.out.1.trans (HB10.out.mono (Nat.le_of_lt hwl))⟩

/-! ### THE ROW's STEP -/
set_option maxRecDepth 100000 in
theorem lifted (os : Os) (started : os.Started) (H : Type) (enc : TypeId × Value → H) :
    ReturnsInHanded {} Tryz.checked os 3 .any (Rows.fnExactLogRoomSpec.pre6 enc Tryz.prog Tryz.f3 Rows.fnExactLogRoomRow.domain false) (Rows.fnExactLogRoomSpec.post enc Tryz.prog Tryz.f3 false true false false) := by
  refine returnsInHanded_of_change (C := Tryz.checked) own started (by kernel_rfl) Tryz.func3
    (ChangeSpec.witness6 (enc := enc) (C := Tryz.checked) false ⟨#[], #[.agg #[.slice none 0 0]], []⟩ 8 (by kernel_rfl) (by kernel_rfl) (by kernel_rfl) (by kernel_rfl)) ?_
  intro W base args ds gs before hval0 hW hcnd _
  have hval : ∀ (j : Nat) t v, Tryz.f3.params[j]? = some t → args[j]? = some v → Value.okWide Tryz.prog W .any base t v := hval0
  have hW' := hW
  obtain ⟨p, q, hA0, hV, rfl, hfz, hnd⟩ := hW
  have hA : DataW.TrodAll enc Tryz.prog W 0 (fun _ => true) true Tryz.f3.params.toList args.toList ds p := hA0
  rw [Tryz.params3] at hA hval
  obtain ⟨v0, vs0, d0, ds0, p0, q0, hargs, rfl, rfl, h0, r0⟩ := trodAll_cons hA
  obtain ⟨rfl, rfl, rfl⟩ := trodAll_nil r0
  obtain rfl : args = #[v0] := by cases args; simp_all
  obtain ⟨rfl, rfl⟩ := trodVars_none hV
  have k0 := h0
  have lt0 : ∀ x ∈ p0, x.block < W.heap.size := by obtain ⟨m, hm⟩ := k0; exact DataW.trod_lt m _ _ _ hm
  have w0 : IsPrgV W v0 := open_Program (hval 0 24 v0 rfl rfl) h0
  clear hA0 hval0
  refine (walk v0 W w0).mono fun e W' ⟨he, bel⟩ => ?_
  subst he
  exact ⟨_, rfl, _, _, _, [], _, [], hW', trodAll_mk1 (shut_bool Tryz.underlying4 _), (trodAll_cons_mk (Below.trod laidOut (by kernel_rfl) (of_decide_eq_true (by kernel_rfl)) k0 bel lt0) trodAll_mk0), rfl, bel.frame _, fun h => by cases h⟩

theorem over : Rows.fnExactLogRoomRow.holds Tryz.pinned (OpenSpec.ofChange Rows.fnExactLogRoomSpec) :=
  OpenClaim.holds_of_wide 3 Tryz.f3 rfl rfl rfl rfl rfl rfl rfl ⟨rfl, rfl, rfl, rfl, rfl⟩ rfl rfl rfl rfl rfl (by kernel_rfl) Tryz.func3 (by kernel_rfl)
    (of_decide_eq_true (by kernel_rfl)) (by unfold Func.isWrapper; first | (rw [if_pos (by decide +kernel)]; kernel_rfl) | (rw [if_neg (by decide +kernel)]; exact ⟨rfl, rfl⟩))
    (fun os started H enc _ => lifted os started H enc)

/-- ████ THE STATEMENT ████ -/
theorem proved : Rows.FnExactLogRoomSaid := over
#print axioms proved
end Go.Proofs.YtebokjjeeedmjaaGreat.fnExactLogRoom
