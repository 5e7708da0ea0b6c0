/- For every program FnExactProgramText returns true and leaves its arguments as they were; the listed variables of the library hold what the program text lays (the card ties them). -/
import Derived.Test.YtpipnhceajdfkaaDoorRows
import Derived.WalkKit
import Derived.ProofKit
import Derived.OpenShut
import Derived.ShutString
import Derived.ChangeOld
import Derived.Below
import Derived.Test.YtpipnhceajdfkaaDoorCards
import Derived.Test.YtpipnhceajdfkaaDoorTie
import Derived.LaidMore
import Derived.Stop.Joined
import Derived.SevenTiedAt
import Derived.MakeChecks
import Derived.Test.YtpipnhceajdfkaaDoorGEptx28
import Derived.Test.YtpipnhceajdfkaaDoorGEptx45
import Derived.Test.YtpipnhceajdfkaaDoorGEptx47
import Derived.Deep.RegionHeld3
import Derived.Laws.Rows
import Derived.Test.YtpipnhceajdfkaaDoorGEptx48
import Derived.Test.YtpipnhceajdfkaaDoorGEptx44
namespace Go.Proofs.YtpipnhceajdfkaaDoor.fnExactProgramText
open Go.ChangeShapes Go.WideShapes Go.ChangeAt Go.RowKit
open Go.ChangeMaps (open_string shut_string)
set_option linter.unusedVariables false

theorem own : ownKnob Tryd.prog.godebug = none := by kernel_rfl
theorem laidOut : laidOutB Tryd.prog = true := by kernel_rfl

open Go.WideMaps Go.WideElems
open Go.Proofs.YtpipnhceajdfkaaDoor.tex Go.Proofs.YtpipnhceajdfkaaDoor.lay Go.Proofs.YtpipnhceajdfkaaDoor.row Go.Proofs.YtpipnhceajdfkaaDoor.val Go.Proofs.YtpipnhceajdfkaaDoor.expr Go.Proofs.YtpipnhceajdfkaaDoor.opn Go.Proofs.YtpipnhceajdfkaaDoor.stm Go.Proofs.YtpipnhceajdfkaaDoor.blk Go.Proofs.YtpipnhceajdfkaaDoor.prg
set_option maxHeartbeats 4000000 in
set_option maxRecDepth 100000 in
theorem walk (a0 : Value) (w : World) (w0 : IsPrgV w a0) (hL : laidMet Tryd.prog Rows.fnExactProgramTextRow.laid w) :
    Calls Tryd.prog 6 #[a0] w fun e w' => e = .returned (.bool true) ∧ Below w.heap.size w w' := by
  obtain ⟨ad, n, cap, P, rfl, hnm, hbm, hR⟩ := w0
  have HT := Lib.hid (Lib.tabBelow_of_tabIs (tab_of hL))
  clear hL
  obtain ⟨W, hW⟩ : ∃ W, W = w.alloc (.cells #[.slice ad n cap] 42) := ⟨_, rfl⟩
  have hbx : Box w.heap.size #[.slice ad n cap] 42 W := by rw [hW]; exact Box.new _ _ _
  have hbw : Below w.heap.size w W := by rw [hW]; exact below_new _ _
  have hwl : w.heap.size < W.heap.size := by rw [hW]; simp
  have HP := Lib.hid (And.intro hbw (And.intro (hR.below hbw) (And.intro hbm hbx)))
  have HW := Lib.hid hW.symm
  clear hbx hbw hR hbm hW
  go_enter Tryd.func6, Tryd.ntmps6
  go_wp2_with (go_at_call 16; rw [HW.out]; (with_reducible refine (szprogram_any _ ad n cap P hnm HP.out.2.2.1 HP.out.2.1).mono ?_); rintro e w1 ⟨r, rfl, hr0, hr1, hrS, hb1⟩; refine Hid.out ?_)
  have c1 : w1.cell? ⟨w.heap.size, 0, none⟩ = some (.slice ad n cap) := (HP.out.2.2.2.below hb1).cell 0
  have HB1 := Lib.hid hb1
  clear hb1
  by_cases hrn : r < 0
  · refine Lib.hid ?_
    go_wp2
    go_ret
    exact ⟨rfl, HP.out.1.trans (HB1.out.mono (Nat.le_of_lt hwl))⟩
  · have HZ := Lib.hid (hrS.out (by omega))
    obtain ⟨X, hX⟩ := progIs_ex P
    have HX := Lib.hid hX
    clear hX
    refine Lib.hid ?_
    go_wp2_with (go_at_call 18; (with_reducible refine (toprogram_any _ ad n cap P HZ.out (HP.out.2.1.below HB1.out)).mono ?_); rintro e w2 ⟨b2, rfl, hT2, hb2⟩; refine Hid.out ?_)
    have c2 : w2.cell? ⟨w.heap.size, 0, none⟩ = some (.slice ad n cap) := (hb2.cell (p := ⟨w.heap.size, 0, none⟩) (Nat.lt_of_lt_of_le hwl HB1.out.size)).trans c1
    have HB2 := Lib.hid (below_then HB1.out hb2)
    have HX2 := Lib.hid hT2.out.row
    clear hT2 hb2 c1
    refine Lib.hid ?_
    go_wp2_with (go_at_call 17; (with_reducible refine (spec_programtext b2 n n P HZ.out _ HX2.out X HX.out).mono ?_); rintro e w4 ⟨rfl, hb4⟩; refine Hid.out ?_)
    have c4 : w4.cell? ⟨w.heap.size, 0, none⟩ = some (.slice ad n cap) := (hb4.cell (p := ⟨w.heap.size, 0, none⟩) (Nat.lt_of_lt_of_le hwl HB2.out.size)).trans c2
    have HB4 := Lib.hid (below_then HB2.out hb4)
    clear hb4 c2
    refine Lib.hid ?_
    go_wp2_with (go_at_call 18; (with_reducible refine (toprogram_any _ ad n cap P HZ.out (HP.out.2.1.below HB4.out)).mono ?_); rintro e w5 ⟨b5, rfl, hT5, hb5⟩; refine Hid.out ?_)
    have c5 : w5.cell? ⟨w.heap.size, 0, none⟩ = some (.slice ad n cap) := (hb5.cell (p := ⟨w.heap.size, 0, none⟩) (Nat.lt_of_lt_of_le hwl HB4.out.size)).trans c4
    have HB5 := Lib.hid (below_then HB4.out hb5)
    have HA5 := Lib.hid (And.intro (Box.new w5 #[.slice none 0 0] 47) (below_new w5 (.cells #[.slice none 0 0] 47)))
    have HX5 := Lib.hid hT5.out
    have hs5 := HB5.out.size
    clear hT5 hb5 c4
    refine Lib.hid ?_
    go_wp2_with ((refine wpList_store_box rfl 47 _ _ rfl w5.heap.size _ _ HA5.out.1 #[.slice b5 n n] rfl rfl rfl (by kernel_rfl) (by simp [Value.oneCell']) ?_); intro w6 hx6 hg6; refine Hid.out ?_)
    have hb6 : Below w5.heap.size w5 w6 := HA5.out.2.grown hg6 HA5.out.2.size (fun j hj => by cases hj; exact Nat.le_refl _)
    have HX6 := Lib.hid (HX5.out.row.below hb6)
    have c6 : w6.cell? ⟨w.heap.size, 0, none⟩ = some (.slice ad n cap) := (hb6.cell (p := ⟨w.heap.size, 0, none⟩) (Nat.lt_of_lt_of_le hwl HB5.out.size)).trans c5
    have HB6 := Lib.hid (below_then HB5.out hb6)
    have HG6 := Lib.hid hx6.lt
    have g6 : w6.cell? ⟨w5.heap.size, 0, none⟩ = some (.slice b5 n n) := hx6.cell 0
    clear hx6 hg6 hb6 c5
    have HBW := Lib.hid (HP.out.1.trans (HB6.out.mono (Nat.le_of_lt hwl)))
    have HTB := Lib.hid (show Lib.TabBelow Tryd.prog w6.heap.size w6 "internal/strconv.uint64pow10" .u64 Lib.pow10Tab from fun w' hw' => (HT.out.on HBW.out) w' (hw'.mono HBW.out.size))
    refine Lib.hid ?_
    go_wp2_with (go_at_call 19; (with_reducible refine (impl_programtext b5 n n P HZ.out (Nat.le_refl _) _ HX6.out X HX.out HTB.out).mono ?_); rintro e w8 ⟨rfl, hb8⟩; refine Hid.out ?_)
    have c8 : w8.cell? ⟨w.heap.size, 0, none⟩ = some (.slice ad n cap) := (hb8.cell (p := ⟨w.heap.size, 0, none⟩) (Nat.lt_of_lt_of_le hwl HB6.out.size)).trans c6
    have HB8 := Lib.hid (below_then HB6.out hb8)
    have g8 : w8.cell? ⟨w5.heap.size, 0, none⟩ = some (.slice b5 n n) := (hb8.cell (p := ⟨w5.heap.size, 0, none⟩) HG6.out).trans g6
    have HG8 := Lib.hid (Nat.lt_of_lt_of_le HG6.out hb8.size)
    have HX8 := Lib.hid (HX6.out.below hb8)
    clear hb8 c6 g6
    have c8d : w8.drew.cell? ⟨w.heap.size, 0, none⟩ = some (.slice ad n cap) := c8
    have g8d : w8.drew.cell? ⟨w5.heap.size, 0, none⟩ = some (.slice b5 n n) := g8
    have l8 : w.heap.size < w8.drew.heap.size := Nat.lt_of_lt_of_le hwl HB8.out.size
    have m8 : w5.heap.size < w8.drew.heap.size := HG8.out
    have HD8 := Lib.hid (show Below w8.heap.size w8 w8.drew from Below.drew (Below.refl _ w8))
    refine Lib.hid ?_
    go_wp2
    go_region_held3 (fun w' => w'.cell? ⟨w.heap.size, 0, none⟩ = some (.slice ad n cap) ∧ w'.cell? ⟨w5.heap.size, 0, none⟩ = some (.slice b5 n n))
      (first
        | (with_reducible exact ⟨c8d, g8d⟩)
        | (with_reducible exact ⟨(hb10.cell (p := ⟨w.heap.size, 0, none⟩) (Nat.lt_of_lt_of_le l8 hb9.size)).trans ((hb9.cell (p := ⟨w.heap.size, 0, none⟩) l8).trans c8d), (hb10.cell (p := ⟨w5.heap.size, 0, none⟩) (Nat.lt_of_lt_of_le m8 hb9.size)).trans ((hb9.cell (p := ⟨w5.heap.size, 0, none⟩) m8).trans g8d)⟩)
        | (with_reducible exact ⟨(hb9.cell (p := ⟨w.heap.size, 0, none⟩) l8).trans c8d, (hb9.cell (p := ⟨w5.heap.size, 0, none⟩) m8).trans g8d⟩))
      (first
        | (go_at_call 18; (with_reducible refine (toprogram_any _ ad n cap P HZ.out (HP.out.2.1.below (HB8.out.trans (HD8.out.mono HB8.out.size)))).mono ?_); rintro e w9 ⟨b9, rfl, hT9, hb9⟩)
        | (go_at_call 20; (with_reducible refine (eqprogram_any _ b5 b9 n n n P HZ.out ((HX8.out.below HD8.out).below hb9) hT9.out.row).mono ?_); rintro e w10 ⟨rfl, hb10⟩))
    all_goals
      have HB10 := Lib.hid ((HB8.out.trans (HD8.out.mono HB8.out.size)).trans ((below_then hb9 hb10).mono (show W.heap.size ≤ w8.drew.heap.size from HB8.out.size)))
      clear hb9 hb10 hT9 c8d g8d c8 g8
      go_wp2
      go_ret
      exact ⟨rfl, HP.out.1.trans (HB10.out.mono (Nat.le_of_lt hwl))⟩

/-! ### THE ROW's STEP -/
/-- The door's own heap meets the condition: three closed facts. -/
theorem door_met (os : Os) (args : Array Value) : laidMetH Tryd.prog Rows.fnExactProgramTextRow.laid ((World.doorLaid Tryd.prog 400 os).forCall (fun _ _ => 0) ⟨#[], args, []⟩).memory :=
  laidMetH_of_parts3 (fuel := 8) (laidMet_of_run' 8 (by kernel_rfl) (by kernel_rfl)) (by kernel_rfl) (by kernel_rfl)

set_option maxRecDepth 100000 in
theorem lifted (os : Os) (started : os.Started) (H : Type) (enc : TypeId × Value → H) :
    ReturnsInHanded {} Tryd.checked os 6 .any (fun w args => (Rows.fnExactProgramTextSpec.pre enc Tryd.prog Tryd.f6 [] false w args ∧ laidMetH Tryd.prog Rows.fnExactProgramTextRow.laid w) ∧ sizedMet enc Tryd.prog Tryd.f6 (OpenSpec.ofChange Rows.fnExactProgramTextSpec) false w args) (Rows.fnExactProgramTextSpec.post enc Tryd.prog Tryd.f6 false true false false) := by
  refine returnsInHanded_of_change_and (C := Tryd.checked) (X := fun w _ => laidMetH Tryd.prog Rows.fnExactProgramTextRow.laid w) (fun _ _ _ hh h => h.of_heap hh) own started (by kernel_rfl) Tryd.func6
    (ChangeSpec.witness_shaped (enc := enc) (C := Tryd.checked) (os := os) (X := fun w _ => laidMetH Tryd.prog Rows.fnExactProgramTextRow.laid w) false (World.doorLaid Tryd.prog 400 os) #[.agg #[.slice none 0 0]] 8 rfl (World.shaped_of_RefB (by kernel_rfl) (by kernel_rfl)) (by kernel_rfl) (by kernel_rfl) (by kernel_rfl) (door_met os _)) ?_
  intro W base args ds gs before hval0 hW hcnd _ hL _
  have hLm : laidMet Tryd.prog Rows.fnExactProgramTextRow.laid W := by rw [MakeChecks.laidMetH_plain _ _ _ (by kernel_rfl)] at hL; exact hL
  have hval : ∀ (j : Nat) t v, Tryd.f6.params[j]? = some t → args[j]? = some v → Value.okWide Tryd.prog W .any base t v := hval0
  have hW' := hW
  obtain ⟨p, q, hA0, hV, rfl, hfz, hnd⟩ := hW
  have hA : DataW.TrodAll enc Tryd.prog W 0 (fun _ => true) true Tryd.f6.params.toList args.toList ds p := hA0
  rw [Tryd.params6] at hA hval
  obtain ⟨v0, vs0, d0, ds0, p0, q0, hargs, rfl, rfl, h0, r0⟩ := trodAll_cons hA
  obtain ⟨rfl, rfl, rfl⟩ := trodAll_nil r0
  obtain rfl : args = #[v0] := by cases args; simp_all
  obtain ⟨rfl, rfl⟩ := trodVars_none hV
  have k0 := h0
  have lt0 : ∀ x ∈ p0, x.block < W.heap.size := by obtain ⟨m, hm⟩ := k0; exact DataW.trod_lt m _ _ _ hm
  have w0 : IsPrgV W v0 := open_Program (hval 0 42 v0 rfl rfl) h0
  clear hA0 hval0
  refine (walk v0 W w0 hLm).mono fun e W' ⟨he, bel⟩ => ?_
  subst he
  exact ⟨_, rfl, _, _, _, [], _, [], hW', trodAll_mk1 (shut_bool Tryd.underlying4 _), (trodAll_cons_mk (Below.trod laidOut (by kernel_rfl) (of_decide_eq_true (by kernel_rfl)) k0 bel lt0) trodAll_mk0), rfl, bel.frame _, fun h => by cases h⟩

theorem over : Rows.fnExactProgramTextRow.holds Tryd.pinned (OpenSpec.ofChange Rows.fnExactProgramTextSpec) :=
  OpenClaim.holds_of_wide 6 Tryd.f6 rfl rfl rfl rfl rfl rfl rfl ⟨rfl, rfl, rfl, rfl, rfl⟩ rfl rfl rfl rfl rfl (by kernel_rfl) Tryd.func6 (by kernel_rfl)
    (of_decide_eq_true (by kernel_rfl)) (by unfold Func.isWrapper; first | (rw [if_pos (by decide +kernel)]; kernel_rfl) | (rw [if_neg (by decide +kernel)]; exact ⟨rfl, rfl⟩))
    (fun os started H enc _ => lifted os started H enc)

/-- ████ THE STATEMENT: THE TIED CARD ████ -/
theorem proved : Rows.FnExactProgramTextCardSaid :=
  Claim7.holds_tied_plain_at .later [] [.data, .data, .data] true (true, "0003a437c9de32906924123970e0e9ae9de71c24c16ce0acdec23ca6a1bf78a0") true
    over (fun _ h => by cases h) (by kernel_rfl) (fun _ h => by cases h) fnExactProgramText_row_tie rfl ⟨rfl, rfl⟩ (by kernel_rfl) rfl
    (fun f fn hf hfn => by
      obtain rfl : f = 6 := Option.some.inj ((show Tryd.prog.funcNamed "loop.example/g00983/laws.FnExactProgramText" = some 6 by kernel_rfl).symm.trans hf) |>.symm
      obtain rfl : fn = Tryd.f6 := (Option.some.inj (Tryd.func6.symm.trans hfn)).symm
      exact ⟨by kernel_rfl, fun j t ht => by
        rw [Tryd.params6] at ht
        have hm : t ∈ [42] := by simpa using Array.mem_of_getElem? ht
        have hall : ([42].all fun u => !Tryd.prog.wantsStandIn u) = true := by kernel_rfl
        exact (show Tryd.prog.wantsStandIn t = false by simpa using List.all_eq_true.1 hall t hm)⟩)
    (by kernel_rfl)
#print axioms proved
end Go.Proofs.YtpipnhceajdfkaaDoor.fnExactProgramText
