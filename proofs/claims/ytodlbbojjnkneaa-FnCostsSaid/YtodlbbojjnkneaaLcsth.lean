/- For every input the law FnCosts returns true and leaves its argument as it was; no condition. -/
import Derived.Test.YtodlbbojjnkneaaRows
import Derived.WalkKit
import Derived.ProofKit
import Derived.OpenShut
import Derived.ShutString
import Derived.ChangeOld
import Derived.Below
import Derived.Test.YtodlbbojjnkneaaGHub42
import Derived.Test.YtodlbbojjnkneaaGHub43
import Derived.Test.YtodlbbojjnkneaaGHub20
import Derived.Test.YtodlbbojjnkneaaGHub49
import Derived.Test.YtodlbbojjnkneaaGHub26
import Derived.Test.YtodlbbojjnkneaaGHub45
import Derived.Test.YtodlbbojjnkneaaGHub9
import Derived.BigQuiet
namespace Go.Proofs.Ytodlbbojjnkneaa.fnCosts
open Go.ChangeShapes Go.WideShapes Go.ChangeAt Go.RowKit
open Go.ChangeMaps (open_string shut_string)
set_option linter.unusedVariables false

theorem own : ownKnob Try.prog.godebug = none := by kernel_rfl
theorem laidOut : laidOutB Try.prog = true := by kernel_rfl

/-- WHAT THE WALK IS TOLD OF A SLICE OF INTEGERS THAT CAME IN: it is nil; or it leads to a row of 'cap' cells, the numbers 'zs' (the first 'len' are its elements, the rest its spare room), each fitting its kind. -/
def IsRow (k : IntKind) (w : World) (a : Option Addr) (len cap : Nat) (zs : List Int) : Prop :=
  (a = none ∧ len = 0 ∧ cap = 0 ∧ zs = []) ∨
  ∃ x, a = some x ∧ len ≤ cap ∧ cap ≤ maxLen ∧ zs.length = cap ∧ (∀ i, i < zs.length → w.cell? (x.add i) = some (.int k (zs.getD i 0))) ∧ ∀ n ∈ zs, (Lit.int k n).wf = true

open Go.Proofs.Ytodlbbojjnkneaa.row Go.Proofs.Ytodlbbojjnkneaa.val Go.Proofs.Ytodlbbojjnkneaa.expr Go.Proofs.Ytodlbbojjnkneaa.stm Go.Proofs.Ytodlbbojjnkneaa.cur Go.Proofs.Ytodlbbojjnkneaa.blk Go.Proofs.Ytodlbbojjnkneaa.sets Go.Proofs.Ytodlbbojjnkneaa.prg Go.Proofs.Ytodlbbojjnkneaa.cst
theorem rec_is (n v : Int) (w : World) (h : recC n = v) : Calls Try.prog 11 #[.int .i64 n] w (Ret w v) := by subst h; exact impl_recovery n w
theorem rec_q (w : World) (n v : Int) (h : recC n = v) (k : Nat) : Calls Try.prog 11 #[.int .i64 n] (w.drewN k) fun e w' => e = .returned (.int .i64 v) ∧ w' = w.drewN k :=
  (rec_is n v _ h).mono fun _ _ ⟨a, b⟩ => ⟨a, b.symm⟩
theorem nrg_q (w : World) (s r v : Int) (h : nrgC s r = v) (k : Nat) : Calls Try.prog 13 #[.int .i64 s, .int .i64 r] (w.drewN k) fun e w' => e = .returned (.int .i64 v) ∧ w' = w.drewN k := by
  subst h; exact (impl_energy s r _).mono fun _ _ ⟨a, b⟩ => ⟨a, b.symm⟩
theorem wr_four {t : Tk} {q : Int} (ht : IsBlk t.b ∧ exprOk t.o t.x t.y = true) (hq : varOk q = true) (h : decide (q ∈ lst (logF t) 8) = true) : WrIs t q 4 :=
  ⟨true, ⟨fun _ => ht, fun _ => rfl⟩, .inr (.inr ⟨rfl, hq, by rw [h]; rfl⟩)⟩
theorem wr_one {t : Tk} {q : Int} (ht : IsBlk t.b ∧ exprOk t.o t.x t.y = true) (hq : varOk q = true) (h : decide (q ∈ lst (logF t) 8) = false) : WrIs t q 1 :=
  ⟨true, ⟨fun _ => ht, fun _ => rfl⟩, .inr (.inr ⟨rfl, hq, by rw [h]; rfl⟩)⟩
set_option maxHeartbeats 8000000 in
set_option maxRecDepth 100000 in
theorem walk (a0 : Option Addr) (len0 cap0 : Nat) (z0 : List Int) (w : World) (w0 : IsRow .u8 w a0 len0 cap0 z0) :
    Calls Try.prog 3 #[.slice a0 len0 cap0] w fun e w' => e = .returned (.bool true) ∧ Below w.heap.size w w' := by
  have HB : Hid (∀ i : Nat, i < len0 → ∃ (b off : Nat) (v : Int), a0 = some ⟨b, off, none⟩ ∧ w.cell? ⟨b, off + i, none⟩ = some (.int .u8 v)) := by
    intro i hi
    rcases w0 with ⟨_, h0, _⟩ | ⟨x, rfl, hl, _, hz, hcell, _⟩
    · omega
    · obtain ⟨b, off, rfl, hc⟩ := ints_at hcell (by omega)
      exact ⟨b, off, _, rfl, hc i (by omega)⟩
  have HB2 : Hid (∀ w1 : World, Below w.heap.size w w1 → ∀ i : Nat, i < len0 → ∃ (b off : Nat) (v : Int), a0 = some ⟨b, off, none⟩ ∧ w1.cell? ⟨b, off + i, none⟩ = some (.int .u8 v)) := by
    intro w1 hb1 i hi
    obtain ⟨b, off, v, ha, hv⟩ := HB.out i hi
    exact ⟨b, off, v, ha, (hb1.cell (World.block_lt_of_cell? w _ hv)).trans hv⟩
  clear w0
  by_cases hbig : (1048576 : Int) < len0
  · go_enter Try.func3, Try.ntmps3
    go_wp2_with (go_at_call 7; refine (big_yes _ _ _ _ hbig).mono ?_; rintro e w1 ⟨rfl, rfl⟩)
    go_ret
    exact ⟨rfl, Below.refl _ _⟩
  · have hsm : (len0 : Int) ≤ 1048576 := by omega
    clear hbig
    go_enter Try.func3, Try.ntmps3
    go_wp2_with (first
      | (go_at_call 7; refine (big_no _ _ _ _ hsm).mono ?_; rintro e w1 ⟨rfl, rfl⟩)
      | (go_at_call 8; refine (task_any _ _ _ _ hsm HB.out).mono ?_; rintro e w1 ⟨gt, m, c, LB, o, x, y, rfl, HBK, hm, HOK, hown, hb1⟩; refine Hid.out ?_))
    have hmc : m ≤ c := own_le hown
    have hmI : (m : Int) ≤ 1048576 := by omega
    have hrow := StRow.of_own hown
    have hlen : LB.length = m := hrow.1
    have HTK := Lib.hid (show IsBlk LB ∧ exprOk o x y = true from ⟨isBlk_of HBK.out (by omega) (by omega), HOK.out⟩)
    have HA1 := Lib.hid (And.intro (Box.new w1 zeroTk 28) (below_new w1 (.cells zeroTk 28)))
    have HB1 := Lib.hid (And.intro hb1 hrow)
    clear hb1 hrow hown
    refine Lib.hid ?_
    go_wp2_with ((refine wpList_store_box rfl 28 _ _ rfl w1.heap.size _ _ HA1.out.1 #[.slice (some ⟨gt, 0, none⟩) m c, .int .i64 o, .int .i64 x, .int .i64 y] rfl rfl rfl (by kernel_rfl) (by simp [Value.oneCell']) ?_); intro w2 hx2 hg2; refine Hid.out ?_)
    have hb2 : Below w1.heap.size w1 w2 := HA1.out.2.grown hg2 HA1.out.2.size (fun j hj => by cases hj; exact Nat.le_refl _)
    have H2 := Lib.hid (And.intro hx2 (And.intro (HB1.out.2.below hb2) (below_then HB1.out.1 hb2)))
    clear hx2 hg2 hb2 HA1 HB1
    refine Lib.hid ?_
    go_wp2
    go_loopw [4] (fun i wr => ∃ k : Nat, k ≤ 8 ∧ i = .int .i64 k ∧ Hid (Below w2.heap.size w2 wr)) (fun i _ => 8 - (intOf i).toNat)
    case atStart => exact ⟨0, by omega, rfl, Below.refl _ _⟩
    case round =>
      obtain ⟨k, hk, rfl, HR⟩ := hrel
      by_cases hlt : k < 8
      · have hI : (k : Int) < 8 := by omega
        have hvk : varOk (k : Int) = true := by simp [varOk]; omega
        have H3 := Lib.hid (And.intro (H2.out.1.below HR.out) (H2.out.2.1.below HR.out))
        cases hl : decide ((k : Int) ∈ lst (logF ⟨LB, o, x, y⟩) 8)
        · have HW := Lib.hid (wr_one (t := ⟨LB, o, x, y⟩) HTK.out hvk hl)
          have HL := Lib.hid hl
          clear hl
          go_wp2_with (first
            | (refine wpList_load_row rfl 28 _ rfl w1.heap.size rfl _ _ _ _ H3.out.1 Try.underlying28 rfl (by kernel_rfl) ?_)
            | (go_at_call 9; (with_reducible refine (impl_writecount (some ⟨gt, 0, none⟩) m c ⟨LB, o, x, y⟩ hmI hmc _ H3.out.2 k 1 HW.out).mono ?_); rintro e w4 ⟨rfl, hb4⟩; refine Hid.out ?_))
          have H4 := Lib.hid (And.intro (H3.out.1.below hb4) (And.intro (H3.out.2.below hb4) (below_then HR.out hb4)))
          clear hb4
          refine Lib.hid ?_
          go_wp2_with (first
            | (refine wpList_load_row rfl 28 _ rfl w1.heap.size rfl _ _ _ _ H4.out.1 Try.underlying28 rfl (by kernel_rfl) ?_)
            | (go_at_call 10; (with_reducible refine (impl_needslog (some ⟨gt, 0, none⟩) m c ⟨LB, o, x, y⟩ hmI hmc _ H4.out.2.1 k false HL.out).mono ?_); rintro e w5 ⟨rfl, hb5⟩; refine Hid.out ?_))
          have H5 := Lib.hid (below_then H4.out.2.2 hb5)
          clear hb5
          refine Lib.hid ?_
          go_wp2
          go_roundw
          case rel => exact ⟨k + 1, by omega, by go_num, H5.out⟩
          case measure => simp [intOf]; omega
        · have HW := Lib.hid (wr_four (t := ⟨LB, o, x, y⟩) HTK.out hvk hl)
          have HL := Lib.hid hl
          clear hl
          go_wp2_with (first
            | (refine wpList_load_row rfl 28 _ rfl w1.heap.size rfl _ _ _ _ H3.out.1 Try.underlying28 rfl (by kernel_rfl) ?_)
            | (go_at_call 9; (with_reducible refine (impl_writecount (some ⟨gt, 0, none⟩) m c ⟨LB, o, x, y⟩ hmI hmc _ H3.out.2 k 4 HW.out).mono ?_); rintro e w4 ⟨rfl, hb4⟩; refine Hid.out ?_))
          have H4 := Lib.hid (And.intro (H3.out.1.below hb4) (And.intro (H3.out.2.below hb4) (below_then HR.out hb4)))
          clear hb4
          refine Lib.hid ?_
          go_wp2_with (first
            | (refine wpList_load_row rfl 28 _ rfl w1.heap.size rfl _ _ _ _ H4.out.1 Try.underlying28 rfl (by kernel_rfl) ?_)
            | (go_at_call 10; (with_reducible refine (impl_needslog (some ⟨gt, 0, none⟩) m c ⟨LB, o, x, y⟩ hmI hmc _ H4.out.2.1 k true HL.out).mono ?_); rintro e w5 ⟨rfl, hb5⟩; refine Hid.out ?_))
          have H5 := Lib.hid (below_then H4.out.2.2 hb5)
          clear hb5
          refine Lib.hid ?_
          go_wp2
          go_roundw
          case rel => exact ⟨k + 1, by omega, by go_num, H5.out⟩
          case measure => simp [intOf]; omega
      · have hI8 : ¬ (k : Int) < 8 := by omega
        clear hk hlt
        have HB3 := Lib.hid (below_then H2.out.2.2 HR.out)
        clear HR
        go_wp2
        go_loop [6] (fun i => ∃ j : Nat, 1 ≤ j ∧ j ≤ 8 ∧ i = .int .i64 j) (fun i => 8 - (intOf i).toNat)
        case atStart => exact ⟨1, by omega, by omega, rfl⟩
        case round =>
          obtain ⟨j, hj1, hj8, rfl⟩ := hrel
          by_cases hlt : j < 8
          · have hI : (j : Int) < 8 := by omega
            obtain ⟨A, hA⟩ : ∃ A, recC ((j : Int) + 1) = A := ⟨_, rfl⟩
            obtain ⟨B, hB⟩ : ∃ B, recC (j : Int) = B := ⟨_, rfl⟩
            have hA2 : A = 3 * ((j : Int) + 1 + 1) := by rw [← hA]; exact recC_in (by omega) (by omega)
            have hB2 : B = 3 * ((j : Int) + 1) := by rw [← hB]; exact recC_in (by omega) (by omega)
            have hAB : A - B = 3 := by omega
            have hA0 : 0 ≤ A ∧ A ≤ 27 := by omega
            have hB0 : 0 ≤ B ∧ B ≤ 27 := by omega
            have H1A := Lib.hid hA
            have H1B := Lib.hid hB
            clear hA hB hA2 hB2
            go_wp2_with (first
              | (go_at_call 11; (with_reducible refine (rec_is _ A _ H1A.out).mono ?_); rintro e w6 ⟨rfl, rfl⟩)
              | (go_at_call 11; (with_reducible refine (rec_is _ B _ H1B.out).mono ?_); rintro e w6 ⟨rfl, rfl⟩))
            go_round
            case rel => exact ⟨j + 1, by omega, by omega, by go_num⟩
            case measure => simp [intOf]; omega
          · have hJ8 : ¬ (j : Int) < 8 := by omega
            go_wp2_with (go_at_call 12; refine (places_any _ _ _ _ hsm (HB2.out _ HB3.out)).mono ?_; rintro e w7 ⟨v, Z, rfl, hl, HZ, hownZ, hb7⟩; refine Hid.out ?_)
            obtain ⟨g, c2, rfl, hbg, hlg, p, hp, hcp⟩ := own_atI hownZ (k := 0) (by omega)
            obtain ⟨g', c', hv', _, _, q, hq, hcq⟩ := own_atI hownZ (k := 1) (by omega)
            injection hv' with h1 h2 h3
            injection h1 with h1
            injection h1 with h1
            subst h1
            have hp' := HZ.out p (List.mem_of_getElem? hp)
            have hq' := HZ.out q (List.mem_of_getElem? hq)
            have C0 := Lib.hid (rec_q w7 0 0 recC_zero)
            have C1 := Lib.hid (nrg_q w7 p q (p * 2 + q * 3) (nrgC_in (amt_iff.2 (by omega)) (amt_iff.2 (by omega))))
            have C2 := Lib.hid (nrg_q w7 p 0 (p * 2) (by rw [nrgC_in (amt_iff.2 (by omega)) (amt_iff.2 (by omega))]; omega))
            have C3 := Lib.hid (nrg_q w7 0 q (q * 3) (by rw [nrgC_in (amt_iff.2 (by omega)) (amt_iff.2 (by omega))]; omega))
            have HF := Lib.hid (below_then HB3.out hb7)
            clear hownZ hb7 hp hq HB HB2 H2 HB3 HTK
            refine Lib.hid ?_
            go_wp2
            go_quiet ((first
              | (go_at_call 11; with_reducible exact Calls.quiet_of_same (C0.out _))
              | (go_at_call 13; first | (with_reducible exact Calls.quiet_of_same (C1.out _)) | (with_reducible exact Calls.quiet_of_same (C2.out _)) | (with_reducible exact Calls.quiet_of_same (C3.out _)))))
            go_wp2
            go_ret
            exact ⟨rfl, below_drewN HF.out _⟩

/-! ### THE ROW's STEP: WRITTEN OUT: LEAVE IT -/
set_option maxRecDepth 100000 in
theorem lifted (os : Os) (started : os.Started) (H : Type) (enc : TypeId × Value → H) :
    ReturnsInHanded {} Try.checked os 3 .any (Rows.fnCostsSpec.pre6 enc Try.prog Try.f3 Rows.fnCostsRow.domain false) (Rows.fnCostsSpec.post enc Try.prog Try.f3 false true false false) := by
  refine returnsInHanded_of_change (C := Try.checked) own started (by kernel_rfl) Try.func3
    (ChangeSpec.witness6 (enc := enc) (C := Try.checked) false ⟨#[], #[.slice none 0 0], []⟩ 8 (by kernel_rfl) (by kernel_rfl) (by kernel_rfl) (by kernel_rfl)) ?_
  intro W base args ds gs before hval0 hW hcnd _
  have hval : ∀ (j : Nat) t v, Try.f3.params[j]? = some t → args[j]? = some v → Value.okWide Try.prog W .any base t v := hval0
  have hW' := hW
  obtain ⟨p, q, hA0, hV, rfl, hfz, hnd⟩ := hW
  have hA : DataW.TrodAll enc Try.prog W 0 (fun _ => true) true Try.f3.params.toList args.toList ds p := hA0
  rw [Try.params3] at hA hval
  obtain ⟨v0, vs0, d0, ds0, p0, q0, hargs, rfl, rfl, h0, r0⟩ := trodAll_cons hA
  obtain ⟨rfl, rfl, rfl⟩ := trodAll_nil r0
  obtain rfl : args = #[v0] := by cases args; simp_all
  obtain ⟨rfl, rfl⟩ := trodVars_none hV
  obtain ⟨a0, len0, cap0, rfl⟩ := okWide_slice Try.underlying22 (hval 0 22 v0 rfl rfl)
  have k0 := h0
  have lt0 : ∀ x ∈ p0, x.block < W.heap.size := by obtain ⟨m, hm⟩ := k0; exact DataW.trod_lt m _ _ _ hm
  obtain ⟨z0, w0⟩ : ∃ zs, IsRow .u8 W a0 len0 cap0 zs := by
    obtain ⟨fuel, hf⟩ := h0
    rcases open_ints Try.underlying22 Try.underlying5 (by kernel_rfl) hf with ⟨hcs, _⟩ | ⟨x, l, c, zs, hcs, _, hl, hm, hz, _, hcell, hwz⟩
    · simp [Value.cells] at hcs
      obtain ⟨rfl, rfl, rfl⟩ := hcs
      exact ⟨[], .inl ⟨rfl, rfl, rfl, rfl⟩⟩
    · simp [Value.cells] at hcs
      obtain ⟨rfl, rfl, rfl⟩ := hcs
      exact ⟨zs, .inr ⟨_, rfl, hl, hm, by simpa using hz, hcell, hwz⟩⟩
  clear hA0 hval0
  refine (walk a0 len0 cap0 z0 W w0).mono fun e W' ⟨he, bel⟩ => ?_
  subst he
  exact ⟨_, rfl, _, _, _, [], _, [], hW', trodAll_mk1 (shut_bool Try.underlying4 _), (trodAll_cons_mk (Below.trod laidOut (by kernel_rfl) (of_decide_eq_true (by kernel_rfl)) k0 bel lt0) trodAll_mk0), rfl, bel.frame _, fun h => by cases h⟩

theorem over : Rows.fnCostsRow.holds Try.pinned (OpenSpec.ofChange Rows.fnCostsSpec) :=
  OpenClaim.holds_of_wide 3 Try.f3 rfl rfl rfl rfl rfl rfl rfl ⟨rfl, rfl, rfl, rfl, rfl⟩ rfl rfl rfl rfl rfl (by kernel_rfl) Try.func3 (by kernel_rfl)
    (of_decide_eq_true (by kernel_rfl)) (by unfold Func.isWrapper; first | (rw [if_pos (by decide +kernel)]; kernel_rfl) | (rw [if_neg (by decide +kernel)]; exact ⟨rfl, rfl⟩))
    (fun os started H enc _ => lifted os started H enc)

/-- ████ THE STATEMENT ████ -/
theorem proved : Rows.FnCostsSaid := over
#print axioms proved
end Go.Proofs.Ytodlbbojjnkneaa.fnCosts
