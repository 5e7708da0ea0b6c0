/- For every program and every row of numbers FnExactMemOk returns true and leaves its arguments as they were; no condition. -/
import Derived.Test.YtlicadaecfgklaaRows
import Derived.WalkKit
import Derived.ProofKit
import Derived.OpenShut
import Derived.ShutString
import Derived.ChangeOld
import Derived.Below
import Derived.Test.YtlicadaecfgklaaGHub10
import Derived.Test.YtlicadaecfgklaaGHub15
import Derived.Test.YtlicadaecfgklaaGHub16
import Derived.Test.YtlicadaecfgklaaGHub37
import Derived.Test.YtlicadaecfgklaaGHub39
import Derived.Deep.RegionHeld3
namespace Go.Proofs.Ytlicadaecfgklaa.fnExactMemOk
open Go.ChangeShapes Go.WideShapes Go.ChangeAt Go.RowKit
open Go.ChangeMaps (open_string shut_string)
set_option linter.unusedVariables false

theorem own : ownKnob Try.prog.godebug = none := by kernel_rfl
theorem laidOut : laidOutB Try.prog = true := by kernel_rfl

/-- A row of numbers that came in: nil, or 'cap' cells that hold 'zs', of which the first 'len' are its elements. -/
def IsRow (k : IntKind) (w : World) (a : Option Addr) (len cap : Nat) (zs : List Int) : Prop :=
  (a = none ∧ len = 0 ∧ cap = 0 ∧ zs = []) ∨
  ∃ x, a = some x ∧ len ≤ cap ∧ cap ≤ maxLen ∧ zs.length = cap ∧ (∀ i, i < zs.length → w.cell? (x.add i) = some (.int k (zs.getD i 0))) ∧ ∀ n ∈ zs, (Lit.int k n).wf = true

open Go.Proofs.Ytlicadaecfgklaa.mem Go.Proofs.Ytlicadaecfgklaa.row Go.Proofs.Ytlicadaecfgklaa.val Go.Proofs.Ytlicadaecfgklaa.expr Go.Proofs.Ytlicadaecfgklaa.opn Go.Proofs.Ytlicadaecfgklaa.stm Go.Proofs.Ytlicadaecfgklaa.blk Go.Proofs.Ytlicadaecfgklaa.prg
theorem row_of {w : World} {a0 : Option Addr} {len0 cap0 : Nat} {z0 : List Int} (w0 : IsRow .i64 w a0 len0 cap0 z0) : Row w a0 len0 (z0.take len0) ∧ len0 ≤ maxLen ∧ ∀ x ∈ z0.take len0, -9223372036854775808 ≤ x ∧ x ≤ 9223372036854775807 := by
  rcases w0 with ⟨rfl, rfl, _, rfl⟩ | ⟨x, rfl, hl, hm, hz, hcell, hwf⟩
  · exact ⟨Row.none_ w, by decide, by simp⟩
  · exact ⟨Row.of_ints hl hz hcell, by omega, fun x hx => bounds_i64 (hwf x (List.mem_of_mem_take hx))⟩
set_option maxHeartbeats 4000000 in
set_option maxRecDepth 100000 in
theorem walk (a0 : Value) (a1 : Option Addr) (len1 cap1 : Nat) (z1 : List Int) (w : World) (w0 : IsPrgV w a0) (w1 : IsRow .i64 w a1 len1 cap1 z1) :
    Calls Try.prog 6 #[a0, .slice a1 len1 cap1] w fun e w' => e = .returned (.bool true) ∧ Below w.heap.size w w' := by
  obtain ⟨ad, n, cap, P, rfl, hnm, hbm, hR⟩ := w0
  obtain ⟨hV, hm1, hwf⟩ := row_of w1
  clear w1
  unfold maxLen at hm1
  obtain ⟨V, hVe⟩ : ∃ V, V = z1.take len1 := ⟨_, rfl⟩
  rw [← hVe] at hV hwf
  have HWF := Lib.hid hwf
  clear hwf
  clear hVe
  obtain ⟨W, hW⟩ : ∃ W, W = w.alloc (.cells #[.slice ad n cap] 33) := ⟨_, rfl⟩
  have hbx : Box w.heap.size #[.slice ad n cap] 33 W := by rw [hW]; exact Box.new _ _ _
  have hbw : Below w.heap.size w W := by rw [hW]; exact below_new _ _
  have hwl : w.heap.size < W.heap.size := by rw [hW]; simp
  have HP := Lib.hid (And.intro hbw (And.intro (hR.below hbw) (And.intro hbm hbx)))
  have HW := Lib.hid hW.symm
  have HV := Lib.hid (hV.below hbw)
  clear hbx hbw hR hbm hW hV
  by_cases hbig : (1048576 : Int) < len1
  · go_enter Try.func6, Try.ntmps6
    go_wp2
    go_ret
    exact ⟨rfl, below_new _ _⟩
  · have hsm : (len1 : Int) ≤ 1048576 := by omega
    clear hbig
    go_enter Try.func6, Try.ntmps6
    go_wp2_with (go_at_call 20; rw [HW.out]; (with_reducible refine (szprogram_any _ ad n cap P hnm HP.out.2.2.1 HP.out.2.1).mono ?_); rintro e w1 ⟨r, rfl, hr0, hr1, hrS, hb1⟩; refine Hid.out ?_)
    have c1 : w1.cell? ⟨w.heap.size, 0, none⟩ = some (.slice ad n cap) := (HP.out.2.2.2.below hb1).cell 0
    have HB1 := Lib.hid hb1
    clear hb1
    by_cases hrn : r < 0
    · refine Lib.hid ?_
      go_wp2
      go_ret
      exact ⟨rfl, HP.out.1.trans (HB1.out.mono (Nat.le_of_lt hwl))⟩
    · have HZ := Lib.hid (hrS.out (by omega))
      obtain ⟨X, hX⟩ := mem_dec P V
      have HX := Lib.hid hX
      clear hX
      refine Lib.hid ?_
      go_wp2_with (go_at_call 22; (with_reducible refine (toprogram_any _ ad n cap P HZ.out (HP.out.2.1.below HB1.out)).mono ?_); rintro e w2 ⟨b2, rfl, hT2, hb2⟩; refine Hid.out ?_)
      have c2 : w2.cell? ⟨w.heap.size, 0, none⟩ = some (.slice ad n cap) := (hb2.cell (p := ⟨w.heap.size, 0, none⟩) (Nat.lt_of_lt_of_le hwl HB1.out.size)).trans c1
      have HB2 := Lib.hid (below_then HB1.out hb2)
      have HX2 := Lib.hid hT2.out.row
      clear hT2 hb2 c1
      refine Lib.hid ?_
      go_wp2_with (go_at_call 8; (with_reducible refine (toInts_any _ a1 len1 cap1 V hsm (HV.out.below HB2.out)).mono ?_); rintro e w3 ⟨d3, rfl, ho3, hb3⟩; refine Hid.out ?_)
      have c3 : w3.cell? ⟨w.heap.size, 0, none⟩ = some (.slice ad n cap) := (hb3.cell (p := ⟨w.heap.size, 0, none⟩) (Nat.lt_of_lt_of_le hwl HB2.out.size)).trans c2
      have HB3 := Lib.hid (below_then HB2.out hb3)
      have HX3 := Lib.hid (And.intro (HX2.out.below hb3) (Row.of_own ho3))
      clear ho3 hb3 c2
      refine Lib.hid ?_
      go_wp2_with (go_at_call 21; (with_reducible refine (spec_memok b2 n n P HZ.out _ HX3.out.1 d3 len1 len1 V hsm (Nat.le_refl _) HX3.out.2 X HX.out).mono ?_); rintro e w4 ⟨rfl, hb4⟩; refine Hid.out ?_)
      have c4 : w4.cell? ⟨w.heap.size, 0, none⟩ = some (.slice ad n cap) := (hb4.cell (p := ⟨w.heap.size, 0, none⟩) (Nat.lt_of_lt_of_le hwl HB3.out.size)).trans c3
      have HB4 := Lib.hid (below_then HB3.out hb4)
      clear hb4 c3
      refine Lib.hid ?_
      go_wp2_with (go_at_call 22; (with_reducible refine (toprogram_any _ ad n cap P HZ.out (HP.out.2.1.below HB4.out)).mono ?_); rintro e w5 ⟨b5, rfl, hT5, hb5⟩; refine Hid.out ?_)
      have c5 : w5.cell? ⟨w.heap.size, 0, none⟩ = some (.slice ad n cap) := (hb5.cell (p := ⟨w.heap.size, 0, none⟩) (Nat.lt_of_lt_of_le hwl HB4.out.size)).trans c4
      have HB5 := Lib.hid (below_then HB4.out hb5)
      have HA5 := Lib.hid (And.intro (Box.new w5 #[.slice none 0 0] 38) (below_new w5 (.cells #[.slice none 0 0] 38)))
      have HX5 := Lib.hid hT5.out
      have hs5 := HB5.out.size
      clear hT5 hb5 c4
      refine Lib.hid ?_
      go_wp2_with ((refine wpList_store_box rfl 38 _ _ rfl w5.heap.size _ _ HA5.out.1 #[.slice b5 n n] rfl rfl rfl (by kernel_rfl) (by simp [Value.oneCell']) ?_); intro w6 hx6 hg6; refine Hid.out ?_)
      have hb6 : Below w5.heap.size w5 w6 := HA5.out.2.grown hg6 HA5.out.2.size (fun j hj => by cases hj; exact Nat.le_refl _)
      have HX6 := Lib.hid (HX5.out.row.below hb6)
      have c6 : w6.cell? ⟨w.heap.size, 0, none⟩ = some (.slice ad n cap) := (hb6.cell (p := ⟨w.heap.size, 0, none⟩) (Nat.lt_of_lt_of_le hwl HB5.out.size)).trans c5
      have HB6 := Lib.hid (below_then HB5.out hb6)
      have HG6 := Lib.hid hx6.lt
      have g6 : w6.cell? ⟨w5.heap.size, 0, none⟩ = some (.slice b5 n n) := hx6.cell 0
      clear hx6 hg6 hb6 c5
      refine Lib.hid ?_
      go_wp2_with (go_at_call 8; (with_reducible refine (toInts_any _ a1 len1 cap1 V hsm (HV.out.below HB6.out)).mono ?_); rintro e w7 ⟨d7, rfl, ho7, hb7⟩; refine Hid.out ?_)
      have c7 : w7.cell? ⟨w.heap.size, 0, none⟩ = some (.slice ad n cap) := (hb7.cell (p := ⟨w.heap.size, 0, none⟩) (Nat.lt_of_lt_of_le hwl HB6.out.size)).trans c6
      have HB7 := Lib.hid (below_then HB6.out hb7)
      have g7 : w7.cell? ⟨w5.heap.size, 0, none⟩ = some (.slice b5 n n) := (hb7.cell (p := ⟨w5.heap.size, 0, none⟩) HG6.out).trans g6
      have HG7 := Lib.hid (Nat.lt_of_lt_of_le HG6.out hb7.size)
      have HX7 := Lib.hid (And.intro (HX6.out.below hb7) (Row.of_own ho7))
      clear ho7 hb7 c6 g6
      refine Lib.hid ?_
      go_wp2_with (go_at_call 23; (with_reducible refine (impl_memok b5 n n P HZ.out (Nat.le_refl _) _ HX7.out.1 d7 len1 len1 V HX7.out.2 HWF.out X HX.out).mono ?_); rintro e w8 ⟨rfl, hb8⟩; refine Hid.out ?_)
      have c8 : w8.cell? ⟨w.heap.size, 0, none⟩ = some (.slice ad n cap) := (hb8.cell (p := ⟨w.heap.size, 0, none⟩) (Nat.lt_of_lt_of_le hwl HB7.out.size)).trans c7
      have HB8 := Lib.hid (below_then HB7.out hb8)
      have g8 : w8.cell? ⟨w5.heap.size, 0, none⟩ = some (.slice b5 n n) := (hb8.cell (p := ⟨w5.heap.size, 0, none⟩) HG7.out).trans g7
      have HG8 := Lib.hid (Nat.lt_of_lt_of_le HG7.out hb8.size)
      have HX8 := Lib.hid (HX7.out.1.below hb8)
      have HY8 := Lib.hid (HX7.out.2.below hb8)
      clear hb8 c7 g7
      have c8d : w8.drew.cell? ⟨w.heap.size, 0, none⟩ = some (.slice ad n cap) := c8
      have g8d : w8.drew.cell? ⟨w5.heap.size, 0, none⟩ = some (.slice b5 n n) := g8
      have l8 : w.heap.size < w8.drew.heap.size := Nat.lt_of_lt_of_le hwl HB8.out.size
      have m8 : w5.heap.size < w8.drew.heap.size := HG8.out
      have HD8 := Lib.hid (show Below w8.heap.size w8 w8.drew from Below.drew (Below.refl _ w8))
      refine Lib.hid ?_
      go_wp2
      go_region_held3 (fun w' => w'.cell? ⟨w.heap.size, 0, none⟩ = some (.slice ad n cap) ∧ w'.cell? ⟨w5.heap.size, 0, none⟩ = some (.slice b5 n n))
        (first
          | (with_reducible exact ⟨c8d, g8d⟩)
          | (with_reducible exact ⟨(hb10.cell (p := ⟨w.heap.size, 0, none⟩) (Nat.lt_of_lt_of_le l8 hb9.size)).trans ((hb9.cell (p := ⟨w.heap.size, 0, none⟩) l8).trans c8d), (hb10.cell (p := ⟨w5.heap.size, 0, none⟩) (Nat.lt_of_lt_of_le m8 hb9.size)).trans ((hb9.cell (p := ⟨w5.heap.size, 0, none⟩) m8).trans g8d)⟩)
          | (with_reducible exact ⟨(hb9.cell (p := ⟨w.heap.size, 0, none⟩) l8).trans c8d, (hb9.cell (p := ⟨w5.heap.size, 0, none⟩) m8).trans g8d⟩))
        (first
          | (go_at_call 22; (with_reducible refine (toprogram_any _ ad n cap P HZ.out (HP.out.2.1.below (HB8.out.trans (HD8.out.mono HB8.out.size)))).mono ?_); rintro e w9 ⟨b9, rfl, hT9, hb9⟩)
          | (go_at_call 24; (with_reducible refine (eqprogram_any _ b5 b9 n n n P HZ.out ((HX8.out.below HD8.out).below hb9) hT9.out.row).mono ?_); rintro e w10 ⟨rfl, hb10⟩))
      all_goals
        have HB10 := Lib.hid ((HB8.out.trans (HD8.out.mono HB8.out.size)).trans ((below_then hb9 hb10).mono (show W.heap.size ≤ w8.drew.heap.size from HB8.out.size)))
        have HY10 := Lib.hid (((HY8.out.below HD8.out).below hb9).below hb10)
        clear hb9 hb10 hT9 c8d g8d c8 g8
        refine Lib.hid ?_
        go_wp2_with (go_at_call 8; (with_reducible refine (toInts_any _ a1 len1 cap1 V hsm (HV.out.below HB10.out)).mono ?_); rintro e w11 ⟨d11, rfl, ho11, hb11⟩; refine Hid.out ?_)
        have H11 := Lib.hid (And.intro (And.intro (HY10.out.below hb11) (Row.of_own ho11)) (below_then HB10.out hb11))
        clear ho11 hb11
        refine Lib.hid ?_
        go_wp2_with (go_at_call 11; refine (eqInts_any _ _ _ _ _ _ V hsm H11.out.1.1 H11.out.1.2).mono ?_; rintro e w12 ⟨rfl, hg12⟩)
        go_ret
        exact ⟨rfl, HP.out.1.trans ((H11.out.2.trans ((below_grown hg12).mono H11.out.2.size)).mono (Nat.le_of_lt hwl))⟩

/-! ### THE ROW's STEP -/
set_option maxRecDepth 100000 in
theorem lifted (os : Os) (started : os.Started) (H : Type) (enc : TypeId × Value → H) :
    ReturnsInHanded {} Try.checked os 6 .any (Rows.fnExactMemOkSpec.pre6 enc Try.prog Try.f6 Rows.fnExactMemOkRow.domain false) (Rows.fnExactMemOkSpec.post enc Try.prog Try.f6 false true false false) := by
  refine returnsInHanded_of_change (C := Try.checked) own started (by kernel_rfl) Try.func6
    (ChangeSpec.witness6 (enc := enc) (C := Try.checked) false ⟨#[], #[.agg #[.slice none 0 0], .slice none 0 0], []⟩ 8 (by kernel_rfl) (by kernel_rfl) (by kernel_rfl) (by kernel_rfl)) ?_
  intro W base args ds gs before hval0 hW hcnd _
  have hval : ∀ (j : Nat) t v, Try.f6.params[j]? = some t → args[j]? = some v → Value.okWide Try.prog W .any base t v := hval0
  have hW' := hW
  obtain ⟨p, q, hA0, hV, rfl, hfz, hnd⟩ := hW
  have hA : DataW.TrodAll enc Try.prog W 0 (fun _ => true) true Try.f6.params.toList args.toList ds p := hA0
  rw [Try.params6] at hA hval
  obtain ⟨v0, vs0, d0, ds0, p0, q0, hargs, rfl, rfl, h0, r0⟩ := trodAll_cons hA
  obtain ⟨v1, vs1, d1, ds1, p1, q1, rfl, rfl, rfl, h1, r1⟩ := trodAll_cons r0
  obtain ⟨rfl, rfl, rfl⟩ := trodAll_nil r1
  obtain rfl : args = #[v0, v1] := by cases args; simp_all
  obtain ⟨rfl, rfl⟩ := trodVars_none hV
  have k0 := h0
  have lt0 : ∀ x ∈ p0, x.block < W.heap.size := by obtain ⟨m, hm⟩ := k0; exact DataW.trod_lt m _ _ _ hm
  have w0 : IsPrgV W v0 := open_Program (hval 0 33 v0 rfl rfl) h0
  obtain ⟨a1, len1, cap1, rfl⟩ := okWide_slice Try.underlying22 (hval 1 22 v1 rfl rfl)
  have k1 := h1
  have lt1 : ∀ x ∈ p1, x.block < W.heap.size := by obtain ⟨m, hm⟩ := k1; exact DataW.trod_lt m _ _ _ hm
  obtain ⟨z1, w1⟩ : ∃ zs, IsRow .i64 W a1 len1 cap1 zs := by
    obtain ⟨fuel, hf⟩ := h1
    rcases open_ints Try.underlying22 Try.underlying3 (by kernel_rfl) hf with ⟨hcs, _⟩ | ⟨x, l, c, zs, hcs, _, hl, hm, hz, _, hcell, hwz⟩
    · simp [Value.cells] at hcs
      obtain ⟨rfl, rfl, rfl⟩ := hcs
      exact ⟨[], .inl ⟨rfl, rfl, rfl, rfl⟩⟩
    · simp [Value.cells] at hcs
      obtain ⟨rfl, rfl, rfl⟩ := hcs
      exact ⟨zs, .inr ⟨_, rfl, hl, hm, by simpa using hz, hcell, hwz⟩⟩
  clear hA0 hval0
  refine (walk v0 a1 len1 cap1 z1 W w0 w1).mono fun e W' ⟨he, bel⟩ => ?_
  subst he
  exact ⟨_, rfl, _, _, _, [], _, [], hW', trodAll_mk1 (shut_bool Try.underlying4 _), (trodAll_cons_mk (Below.trod laidOut (by kernel_rfl) (of_decide_eq_true (by kernel_rfl)) k0 bel lt0) (trodAll_cons_mk (Below.trod laidOut (by kernel_rfl) (of_decide_eq_true (by kernel_rfl)) k1 bel lt1) trodAll_mk0)), rfl, bel.frame _, fun h => by cases h⟩

theorem over : Rows.fnExactMemOkRow.holds Try.pinned (OpenSpec.ofChange Rows.fnExactMemOkSpec) :=
  OpenClaim.holds_of_wide 6 Try.f6 rfl rfl rfl rfl rfl rfl rfl ⟨rfl, rfl, rfl, rfl, rfl⟩ rfl rfl rfl rfl rfl (by kernel_rfl) Try.func6 (by kernel_rfl)
    (of_decide_eq_true (by kernel_rfl)) (by unfold Func.isWrapper; first | (rw [if_pos (by decide +kernel)]; kernel_rfl) | (rw [if_neg (by decide +kernel)]; exact ⟨rfl, rfl⟩))
    (fun os started H enc _ => lifted os started H enc)

/-- ████ THE STATEMENT ████ -/
theorem proved : Rows.FnExactMemOkSaid := over
#print axioms proved
end Go.Proofs.Ytlicadaecfgklaa.fnExactMemOk
