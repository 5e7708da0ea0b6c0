/- For every input the law FnOperands returns true and leaves its argument as it was; no condition. -/
import Derived.Test.YtnpofcalghdaaaaRows
import Derived.WalkKit
import Derived.ProofKit
import Derived.OpenShut
import Derived.ShutString
import Derived.ChangeOld
import Derived.Below
import Derived.Test.YtnpofcalghdaaaaEval
import Derived.Test.YtnpofcalghdaaaaVars
import Derived.Deep.QuietTactic
import Derived.BigQuiet
namespace Go.Proofs.Ytnpofcalghdaaaa.fnOperands
open Go.ChangeShapes Go.WideShapes Go.ChangeAt Go.RowKit
open Go.ChangeMaps (open_string shut_string)
set_option linter.unusedVariables false

theorem own : ownKnob Try.prog.godebug = none := by kernel_rfl
theorem laidOut : laidOutB Try.prog = true := by kernel_rfl

/-- WHAT THE WALK IS TOLD OF A SLICE OF INTEGERS THAT CAME IN: it is nil; or it leads to a row of 'cap' cells, the numbers 'zs' (the first 'len' are its elements, the rest its spare room), each fitting its kind. -/
def IsRow (k : IntKind) (w : World) (a : Option Addr) (len cap : Nat) (zs : List Int) : Prop :=
  (a = none ∧ len = 0 ∧ cap = 0 ∧ zs = []) ∨
  ∃ x, a = some x ∧ len ≤ cap ∧ cap ≤ maxLen ∧ zs.length = cap ∧ (∀ i, i < zs.length → w.cell? (x.add i) = some (.int k (zs.getD i 0))) ∧ ∀ n ∈ zs, (Lit.int k n).wf = true

open Go.Proofs.Ytnpofcalghdaaaa.row Go.Proofs.Ytnpofcalghdaaaa.val Go.Proofs.Ytnpofcalghdaaaa.expr Go.Proofs.Ytnpofcalghdaaaa.cur
theorem opval_q (w : World) (ad : Option Addr) (n cap : Nat) (L : List Int) (hn : (n : Int) ≤ 1048576) (h : Row w ad n L) (m v : Int) (hv : opndVal L m = v) (k : Nat) :
    Calls Try.prog 15 #[.slice ad n cap, .int .i64 m] (w.drewN k) fun e w' => e = .returned (.int .i64 v) ∧ w' = w.drewN k := by
  subst hv; exact (impl_opval _ ad n cap L hn (h.drewN k) m).mono fun _ _ ⟨a, b⟩ => ⟨a, b.symm⟩
theorem opnd_q (w : World) (m : Int) (h : opndOk m = true) (k : Nat) :
    Calls Try.prog 27 #[.int .i64 m] (w.drewN k) fun e w' => e = .returned (.bool true) ∧ w' = w.drewN k :=
  (impl_opnd m true h _).mono fun _ _ ⟨a, b⟩ => ⟨a, b.symm⟩
set_option maxHeartbeats 1000000 in
theorem walk (a0 : Option Addr) (len0 cap0 : Nat) (z0 : List Int) (w : World) (w0 : IsRow .u8 w a0 len0 cap0 z0) :
    Calls Try.prog 7 #[.slice a0 len0 cap0] w fun e w' => e = .returned (.bool true) ∧ Below w.heap.size w w' := by
  have HB : Hid (∀ i : Nat, i < len0 → ∃ (b off : Nat) (v : Int), a0 = some ⟨b, off, none⟩ ∧ w.cell? ⟨b, off + i, none⟩ = some (.int .u8 v)) := by
    intro i hi
    rcases w0 with ⟨_, h0, _⟩ | ⟨x, rfl, hl, _, hz, hcell, _⟩
    · omega
    · obtain ⟨b, off, rfl, hc⟩ := ints_at hcell (by omega)
      exact ⟨b, off, _, rfl, hc i (by omega)⟩
  have HB2 : Hid (∀ w1 : World, Below w.heap.size w w1 → ∀ i : Nat, i < len0 → ∃ (b off : Nat) (v : Int), a0 = some ⟨b, off, none⟩ ∧ w1.cell? ⟨b, off + i, none⟩ = some (.int .u8 v)) := by
    intro w1 hb1 i hi
    obtain ⟨b, off, v, ha, hv⟩ := HB.out i hi
    exact ⟨b, off, v, ha, (hb1.cell (World.block_lt_of_cell? w _ hv)).trans hv⟩
  clear w0
  by_cases hbig : (1048576 : Int) < len0
  · go_enter Try.func7, Try.ntmps7
    go_wp2_with (go_at_call 19; refine (big_yes _ _ _ _ hbig).mono ?_; rintro e w1 ⟨rfl, rfl⟩)
    go_ret
    exact ⟨rfl, Below.refl _ _⟩
  · have hsm : (len0 : Int) ≤ 1048576 := by omega
    clear hbig
    go_enter Try.func7, Try.ntmps7
    go_wp2_with (first
      | (go_at_call 19; refine (big_no _ _ _ _ hsm).mono ?_; rintro e w1 ⟨rfl, rfl⟩)
      | (go_at_call 21; refine (vars_any _ _ _ _ hsm HB.out).mono ?_; rintro e w1 ⟨ad, c, V, rfl, HVL, HVV, hown1, hb1⟩; refine Hid.out ?_))
    have H1 := Lib.hid (And.intro hown1 hb1)
    clear hown1 hb1
    refine Lib.hid ?_
    go_wp2_with (go_at_call 22; refine (places_any _ _ _ _ hsm (HB2.out _ H1.out.2)).mono ?_; rintro e w2 ⟨v, L, rfl, hl, HL, hown, hb2⟩; refine Hid.out ?_)
    obtain ⟨g, c2, rfl, hbg, hlg, x, hx, hcx⟩ := own_atI hown (k := 0) (by omega)
    obtain ⟨g', c', hv', _, _, y, hy, hcy⟩ := own_atI hown (k := 1) (by omega)
    injection hv' with h1 h2 h3
    injection h1 with h1
    injection h1 with h1
    subst h1
    have hx' := HL.out x (List.mem_of_getElem? hx)
    have hy' := HL.out y (List.mem_of_getElem? hy)
    have hown12 := H1.out.1.kept (grown_below hb2 none) (by cases ad <;> simp [Value.ownBlock])
    have hR := Row.of_own hown12
    have hvok : varsOk V = true := (varsOk_iff V).2 ⟨HVL.out, HVV.out⟩
    obtain ⟨j, hj8, hj⟩ : ∃ j : Nat, j < 8 ∧ x % 8 = (j : Int) := ⟨(x % 8).toNat, by omega, by omega⟩
    obtain ⟨m, hm0, hm1, hm⟩ : ∃ m : Int, 0 ≤ m ∧ m < 1000 ∧ y % 1000 = m := ⟨y % 1000, by omega, by omega, rfl⟩
    obtain ⟨b, off, q, rfl, _, hq, hcq⟩ := hR.2 j hj8
    have hqv : opndVal V (-1 - (j : Int)) = q := by
      rw [opndVal_ok ((opndOk_iff _).2 (by omega)) hvok, expr.valOf, if_pos (by omega), List.getD_eq_getElem?_getD, show (-1 - (-1 - (j : Int))).toNat = j by omega, hq]; rfl
    have hmv : opndVal V m = m := by
      rw [opndVal_ok ((opndOk_iff _).2 (by omega)) hvok, expr.valOf, if_neg (by omega)]
    have C1 := Lib.hid (opval_q w2 _ 8 c V (by omega) hR _ _ hqv)
    have C2 := Lib.hid (opval_q w2 _ 8 c V (by omega) hR _ _ hmv)
    have C3 := Lib.hid (opnd_q w2 (-1 - (j : Int)) ((opndOk_iff _).2 (by omega)))
    have C4 := Lib.hid (opnd_q w2 m ((opndOk_iff _).2 (by omega)))
    have HF := Lib.hid (below_then H1.out.2 hb2)
    have hjI : (j : Int) < 8 := by omega
    have hj0 : (0 : Int) ≤ j := by omega
    have hmod1 : x.tmod 8 = x % 8 := Int.tmod_eq_emod_of_nonneg hx'.1
    have hmod2 : y.tmod 1000 = y % 1000 := Int.tmod_eq_emod_of_nonneg hy'.1
    rw [hj] at hmod1
    rw [hm] at hmod2
    clear hown hown12 hR hvok hqv hmv hq hb2 H1 HVL HVV HB HB2 hx hy
    refine Lib.hid ?_
    go_wp2
    go_quiet ((first
      | (go_at_call 15; first | (with_reducible exact Calls.quiet_of_same (C1.out _)) | (with_reducible exact Calls.quiet_of_same (C2.out _)))
      | (go_at_call 27; first | (with_reducible exact Calls.quiet_of_same (C3.out _)) | (with_reducible exact Calls.quiet_of_same (C4.out _)))))
    go_wp2
    go_ret
    exact ⟨rfl, below_drewN HF.out _⟩


/-! ### THE ROW's STEP: WRITTEN OUT: LEAVE IT -/
set_option maxRecDepth 100000 in
theorem lifted (os : Os) (started : os.Started) (H : Type) (enc : TypeId × Value → H) :
    ReturnsInHanded {} Try.checked os 7 .any (Rows.fnOperandsSpec.pre6 enc Try.prog Try.f7 Rows.fnOperandsRow.domain false) (Rows.fnOperandsSpec.post enc Try.prog Try.f7 false true false false) := by
  refine returnsInHanded_of_change (C := Try.checked) own started (by kernel_rfl) Try.func7
    (ChangeSpec.witness6 (enc := enc) (C := Try.checked) false ⟨#[], #[.slice none 0 0], []⟩ 8 (by kernel_rfl) (by kernel_rfl) (by kernel_rfl) (by kernel_rfl)) ?_
  intro W base args ds gs before hval0 hW hcnd _
  have hval : ∀ (j : Nat) t v, Try.f7.params[j]? = some t → args[j]? = some v → Value.okWide Try.prog W .any base t v := hval0
  have hW' := hW
  obtain ⟨p, q, hA0, hV, rfl, hfz, hnd⟩ := hW
  have hA : DataW.TrodAll enc Try.prog W 0 (fun _ => true) true Try.f7.params.toList args.toList ds p := hA0
  rw [Try.params7] at hA hval
  obtain ⟨v0, vs0, d0, ds0, p0, q0, hargs, rfl, rfl, h0, r0⟩ := trodAll_cons hA
  obtain ⟨rfl, rfl, rfl⟩ := trodAll_nil r0
  obtain rfl : args = #[v0] := by cases args; simp_all
  obtain ⟨rfl, rfl⟩ := trodVars_none hV
  obtain ⟨a0, len0, cap0, rfl⟩ := okWide_slice Try.underlying34 (hval 0 34 v0 rfl rfl)
  have k0 := h0
  have lt0 : ∀ x ∈ p0, x.block < W.heap.size := by obtain ⟨m, hm⟩ := k0; exact DataW.trod_lt m _ _ _ hm
  obtain ⟨z0, w0⟩ : ∃ zs, IsRow .u8 W a0 len0 cap0 zs := by
    obtain ⟨fuel, hf⟩ := h0
    rcases open_ints Try.underlying34 Try.underlying5 (by kernel_rfl) hf with ⟨hcs, _⟩ | ⟨x, l, c, zs, hcs, _, hl, hm, hz, _, hcell, hwz⟩
    · simp [Value.cells] at hcs
      obtain ⟨rfl, rfl, rfl⟩ := hcs
      exact ⟨[], .inl ⟨rfl, rfl, rfl, rfl⟩⟩
    · simp [Value.cells] at hcs
      obtain ⟨rfl, rfl, rfl⟩ := hcs
      exact ⟨zs, .inr ⟨_, rfl, hl, hm, by simpa using hz, hcell, hwz⟩⟩
  clear hA0 hval0
  refine (walk a0 len0 cap0 z0 W w0).mono fun e W' ⟨he, bel⟩ => ?_
  subst he
  exact ⟨_, rfl, _, _, _, [], _, [], hW', trodAll_mk1 (shut_bool Try.underlying4 _), (trodAll_cons_mk (Below.trod laidOut (by kernel_rfl) (of_decide_eq_true (by kernel_rfl)) k0 bel lt0) trodAll_mk0), rfl, bel.frame _, fun h => by cases h⟩

theorem over : Rows.fnOperandsRow.holds Try.pinned (OpenSpec.ofChange Rows.fnOperandsSpec) :=
  OpenClaim.holds_of_wide 7 Try.f7 rfl rfl rfl rfl rfl rfl rfl ⟨rfl, rfl, rfl, rfl, rfl⟩ rfl rfl rfl rfl rfl (by kernel_rfl) Try.func7 (by kernel_rfl)
    (of_decide_eq_true (by kernel_rfl)) (by unfold Func.isWrapper; first | (rw [if_pos (by decide +kernel)]; kernel_rfl) | (rw [if_neg (by decide +kernel)]; exact ⟨rfl, rfl⟩))
    (fun os started H enc _ => lifted os started H enc)

/-- ████ THE STATEMENT ████ -/
theorem proved : Rows.FnOperandsSaid := over
#print axioms proved
end Go.Proofs.Ytnpofcalghdaaaa.fnOperands
