/- For every input the law FnTouched returns true and leaves its argument as it was; no condition. -/
import Derived.Test.YtmanplejhcjnaaaRows
import Derived.WalkKit
import Derived.ProofKit
import Derived.OpenShut
import Derived.ShutString
import Derived.ChangeOld
import Derived.Below
import Derived.Test.YtmanplejhcjnaaaWtD
import Derived.Test.YtmanplejhcjnaaaWtJ
import Derived.Test.YtmanplejhcjnaaaWtK
import Derived.Test.YtmanplejhcjnaaaWtL
import Derived.Test.YtmanplejhcjnaaaEvalD
namespace Go.Proofs.Ytmanplejhcjnaaa.fnTouched
open Go.ChangeShapes Go.WideShapes Go.ChangeAt Go.RowKit
open Go.ChangeMaps (open_string shut_string)
set_option linter.unusedVariables false

theorem own : ownKnob Try.prog.godebug = none := by kernel_rfl
theorem laidOut : laidOutB Try.prog = true := by kernel_rfl

/-- WHAT THE WALK IS TOLD OF A SLICE OF INTEGERS THAT CAME IN: it is nil; or it leads to a row of 'cap' cells, the numbers 'zs' (the first 'len' are its elements, the rest its spare room), each fitting its kind. -/
def IsRow (k : IntKind) (w : World) (a : Option Addr) (len cap : Nat) (zs : List Int) : Prop :=
  (a = none ∧ len = 0 ∧ cap = 0 ∧ zs = []) ∨
  ∃ x, a = some x ∧ len ≤ cap ∧ cap ≤ maxLen ∧ zs.length = cap ∧ (∀ i, i < zs.length → w.cell? (x.add i) = some (.int k (zs.getD i 0))) ∧ ∀ n ∈ zs, (Lit.int k n).wf = true

open Go.Proofs.Ytmanplejhcjnaaa.row Go.Proofs.Ytmanplejhcjnaaa.val Go.Proofs.Ytmanplejhcjnaaa.expr Go.Proofs.Ytmanplejhcjnaaa.grow Go.Proofs.Ytmanplejhcjnaaa.cur Go.Proofs.Ytmanplejhcjnaaa.wrt
theorem mod_12 {x : Int} (h : 0 ≤ x) : ∃ q : Nat, x.tmod 12 = q ∧ q < 12 := by
  rw [Int.tmod_eq_emod_of_nonneg h]
  exact ⟨(x % 12).toNat, by omega, by omega⟩
set_option maxHeartbeats 4000000 in
set_option maxRecDepth 100000 in
theorem walk (a0 : Option Addr) (len0 cap0 : Nat) (z0 : List Int) (w : World) (w0 : IsRow .u8 w a0 len0 cap0 z0) :
    Calls Try.prog 4 #[.slice a0 len0 cap0] w fun e w' => e = .returned (.bool true) ∧ Below w.heap.size w w' := by
  have HB : Hid (∀ w1 : World, Below w.heap.size w w1 → ∀ i : Nat, i < len0 → ∃ (b off : Nat) (v : Int), a0 = some ⟨b, off, none⟩ ∧ w1.cell? ⟨b, off + i, none⟩ = some (.int .u8 v)) := by
    intro w1 hb1 i hi
    rcases w0 with ⟨_, h0, _⟩ | ⟨x, rfl, hl, _, hz, hcell, _⟩
    · omega
    · obtain ⟨b, off, rfl, hc⟩ := ints_at hcell (by omega)
      exact ⟨b, off, _, rfl, (hb1.cell (World.block_lt_of_cell? w _ (hc i (by omega)))).trans (hc i (by omega))⟩
  clear w0
  by_cases hbig : (1048576 : Int) < len0
  · go_enter Try.func4, Try.ntmps4
    go_wp2_with (go_at_call 9; refine (big_yes _ _ _ _ hbig).mono ?_; rintro e w1 ⟨rfl, rfl⟩)
    go_ret
    exact ⟨rfl, Below.refl _ _⟩
  have hsm : (len0 : Int) ≤ 1048576 := by omega
  clear hbig
  go_enter Try.func4, Try.ntmps4
  go_wp2_with (first
    | (go_at_call 9; refine (big_no _ _ _ _ hsm).mono ?_; rintro e w1 ⟨rfl, rfl⟩)
    | (go_at_call 10; refine (drawwrites_any _ _ _ _ hsm (HB.out _ (Below.refl _ _))).mono ?_; rintro e w1 ⟨gm, M, ad, n, c, L, rfl, hn9, hnc, hsp, HM, hRM, hRL, hb1⟩; refine Hid.out ?_))
  have H1 := Lib.hid (And.intro hRM (And.intro hRL hb1))
  have hn9' : (n : Int) ≤ 9 := by omega
  clear hRM hRL hb1 hsp
  refine Lib.hid ?_
  go_wp2_with (go_at_call 13; (with_reducible refine (impl_touched _ ad n c L (by omega) H1.out.2.1).mono ?_); rintro e w2 ⟨at2, n2, c2, rfl, ho2, hb2⟩; refine Hid.out ?_)
  have HTL := Lib.hid (own_len ho2)
  have hn2 : (n2 : Int) ≤ n := by have h1 := own_len ho2; have h2 := tch_len L; have h3 := H1.out.2.1.1; omega
  have H2 := Lib.hid (And.intro (Row.of_own ho2) (And.intro (H1.out.1.below hb2) (And.intro (H1.out.2.1.below hb2) (below_then H1.out.2.2 hb2))))
  clear ho2 hb2
  refine Lib.hid ?_
  go_wp2
  go_loopw [6] (fun i wr => ∃ k : Nat, k ≤ n ∧ i = .int .i64 k ∧ Below w2.heap.size w2 wr) (fun i _ => n - (intOf i).toNat)
  case atStart => exact ⟨0, Nat.zero_le _, rfl, Below.refl _ _⟩
  case round =>
    obtain ⟨k, hk, rfl, hbel⟩ := hrel
    by_cases hlt : k < n
    · have hI : (k : Int) < n := by omega
      obtain ⟨b0, off0, s, rfl, _, hs, hr⟩ := (H2.out.2.2.1.below hbel).2 k hlt
      have HT := Lib.hid (And.intro (H2.out.1.below hbel) hbel)
      have c0 : wr.cell? ⟨b0, off0 + k * 2, none⟩ = some (.int .i64 s.p) := (range2 hr).1
      have HD := Lib.hid (show decide (s.p ∈ tch L) = true by rw [decide_eq_true_eq]; exact tch_mem.2 ⟨s, List.mem_of_getElem? hs, rfl⟩)
      clear hr hs hbel
      go_wp2_with (go_at_call 15; refine (has_any _ at2 n2 c2 _ _ true (by omega) HT.out.1 HD.out).mono ?_; rintro e wz ⟨rfl, rfl⟩)
      go_roundw
      case rel => exact ⟨k + 1, by omega, by go_num, HT.out.2⟩
      case measure => simp [intOf]; omega
    · have hI : ¬ (k : Int) < n := by omega
      obtain ⟨w3, rfl⟩ : ∃ x, x = wr := ⟨_, rfl⟩
      have H3 := Lib.hid (And.intro (H2.out.1.below hbel) (And.intro (H2.out.2.1.below hbel) (below_then H2.out.2.2.2 hbel)))
      clear hbel
      go_wp2
      go_loopw [7] (fun i wr => ∃ k : Nat, k ≤ n2 ∧ i = .int .i64 ((k : Int) + 1) ∧ Below w3.heap.size w3 wr) (fun i _ => n2 - (intOf i).toNat)
      case atStart => exact ⟨0, Nat.zero_le _, rfl, Below.refl _ _⟩
      case round =>
        obtain ⟨j, hj, rfl, hbel⟩ := hrel
        by_cases hjt : j + 1 < n2
        · have hJ : (j : Int) + 1 < n2 := by omega
          obtain ⟨b1, off1, y1, e1, _, hy1, cy1⟩ := (H3.out.1.below hbel).2 (j + 1) hjt
          obtain ⟨b2, off2, y0, e2, _, hy0, cy0⟩ := (H3.out.1.below hbel).2 j (by omega)
          rw [e1] at e2
          cases e2
          subst e1
          have hy : ¬ y1 ≤ y0 := by have := asc_at (tch_asc L) (show j < j + 1 by omega) hy0 hy1; omega
          have HBE := Lib.hid hbel
          clear hy0 hy1 hbel
          go_wp2
          go_quiet (fail)
          go_wp2
          go_roundw
          case rel => exact ⟨j + 1, by omega, by go_num, by first | exact HBE.out | exact below_drewN HBE.out _⟩
          case measure => simp [intOf]; omega
        · have hJ : ¬ (j : Int) + 1 < n2 := by omega
          obtain ⟨w4, rfl⟩ : ∃ x, x = wr := ⟨_, rfl⟩
          have H4 := Lib.hid (And.intro (H3.out.2.1.below hbel) (below_then H3.out.2.2 hbel))
          clear hbel
          go_wp2_with (go_at_call 11; refine (places_any _ _ _ _ hsm (HB.out _ H4.out.2)).mono ?_; rintro e w5 ⟨v, Z, rfl, hl, HZ, hown, hb5⟩; refine Hid.out ?_)
          obtain ⟨g, cz, rfl, hbg, hlg, x, hx, hcx⟩ := own_atI hown (k := 1) (by omega)
          have hx0 := (HZ.out x (List.mem_of_getElem? hx)).1
          have hx1 := (HZ.out x (List.mem_of_getElem? hx)).2
          obtain ⟨q, hmod, hq12⟩ := mod_12 hx0
          have hR5 := H4.out.1.below hb5
          obtain ⟨g', off', Y, e5, _, hY, cY⟩ := hR5.2 q hq12
          cases e5
          rw [Nat.zero_add] at cY
          have hYb := HM.out Y (List.mem_of_getElem? hY)
          have hY0 := hYb.1
          have hY1 := hYb.2
          have hqI : (q : Int) < 12 := by omega
          have HP := Lib.hid (show put1 M ⟨q, Y + 1⟩ = M.set q (Y + 1) from put1_in rfl (by rw [hR5.1]; exact hq12))
          have HML := Lib.hid hR5.1
          have HFD := Lib.hid (show FdIs M (M.set q (Y + 1)) q from fd_set hY (by omega))
          have HFN := Lib.hid (show FdIs M M (-1) from .inl ⟨rfl, rfl⟩)
          have H5 := Lib.hid (And.intro hR5 (below_then H4.out.2 hb5))
          have HWW := Lib.hid (show ∀ w' : World, Row w' (some ⟨gm, 0, none⟩) 12 M → Calls Try.prog 16 #[.slice (some ⟨gm, 0, none⟩) 12 12, .agg #[.int .i64 q, .int .i64 (Y + 1)]] w' (NewAt w' 12 (M.set q (Y + 1))) from fun w' h => by rw [← HP.out]; exact impl_write w' _ 12 12 M ⟨q, Y + 1⟩ (by omega) h)
          clear hown hb5 hl hx hbg hlg hR5 hY hYb hx1
          refine Lib.hid ?_
          go_wp2_with (go_at_call 16; (with_reducible refine (HWW.out _ H5.out.1).mono ?_); rintro e w6 ⟨g6, rfl, hg6, hx6, hb6⟩; refine Hid.out ?_)
          have H6 := Lib.hid (And.intro (box_row hx6 (show (M.set q (Y + 1)).length = 12 by rw [List.length_set]; exact HML.out)) (And.intro (H5.out.1.below hb6) (below_then H5.out.2 hb6)))
          clear hx6 hb6 hg6 cY hcx
          refine Lib.hid ?_
          go_wp2_with (go_at_call 17; (with_reducible refine (impl_first _ _ _ 12 12 _ _ M (M.set q (Y + 1)) q (by omega) (by omega) H6.out.2.1 H6.out.1 HFD.out).mono ?_); rintro e w7 ⟨rfl, hb7⟩; refine Hid.out ?_)
          have H7 := Lib.hid (And.intro (H6.out.2.1.below hb7) (below_then H6.out.2.2 hb7))
          clear hb7
          refine Lib.hid ?_
          go_wp2_with (go_at_call 17; (with_reducible refine (impl_first _ _ _ 12 12 _ _ M M (-1) (by omega) (by omega) H7.out.1 H7.out.1 HFN.out).mono ?_); rintro e w8 ⟨rfl, hb8⟩; refine Hid.out ?_)
          have H8 := Lib.hid (below_then H7.out.2 hb8)
          clear hb8
          refine Lib.hid ?_
          go_wp2
          go_ret
          exact ⟨rfl, H8.out⟩

/-! ### THE ROW's STEP: WRITTEN OUT: LEAVE IT -/
set_option maxRecDepth 100000 in
theorem lifted (os : Os) (started : os.Started) (H : Type) (enc : TypeId × Value → H) :
    ReturnsInHanded {} Try.checked os 4 .any (Rows.fnTouchedSpec.pre6 enc Try.prog Try.f4 Rows.fnTouchedRow.domain false) (Rows.fnTouchedSpec.post enc Try.prog Try.f4 false true false false) := by
  refine returnsInHanded_of_change (C := Try.checked) own started (by kernel_rfl) Try.func4
    (ChangeSpec.witness6 (enc := enc) (C := Try.checked) false ⟨#[], #[.slice none 0 0], []⟩ 8 (by kernel_rfl) (by kernel_rfl) (by kernel_rfl) (by kernel_rfl)) ?_
  intro W base args ds gs before hval0 hW hcnd _
  have hval : ∀ (j : Nat) t v, Try.f4.params[j]? = some t → args[j]? = some v → Value.okWide Try.prog W .any base t v := hval0
  have hW' := hW
  obtain ⟨p, q, hA0, hV, rfl, hfz, hnd⟩ := hW
  have hA : DataW.TrodAll enc Try.prog W 0 (fun _ => true) true Try.f4.params.toList args.toList ds p := hA0
  rw [Try.params4] at hA hval
  obtain ⟨v0, vs0, d0, ds0, p0, q0, hargs, rfl, rfl, h0, r0⟩ := trodAll_cons hA
  obtain ⟨rfl, rfl, rfl⟩ := trodAll_nil r0
  obtain rfl : args = #[v0] := by cases args; simp_all
  obtain ⟨rfl, rfl⟩ := trodVars_none hV
  obtain ⟨a0, len0, cap0, rfl⟩ := okWide_slice Try.underlying22 (hval 0 22 v0 rfl rfl)
  have k0 := h0
  have lt0 : ∀ x ∈ p0, x.block < W.heap.size := by obtain ⟨m, hm⟩ := k0; exact DataW.trod_lt m _ _ _ hm
  obtain ⟨z0, w0⟩ : ∃ zs, IsRow .u8 W a0 len0 cap0 zs := by
    obtain ⟨fuel, hf⟩ := h0
    rcases open_ints Try.underlying22 Try.underlying5 (by kernel_rfl) hf with ⟨hcs, _⟩ | ⟨x, l, c, zs, hcs, _, hl, hm, hz, _, hcell, hwz⟩
    · simp [Value.cells] at hcs
      obtain ⟨rfl, rfl, rfl⟩ := hcs
      exact ⟨[], .inl ⟨rfl, rfl, rfl, rfl⟩⟩
    · simp [Value.cells] at hcs
      obtain ⟨rfl, rfl, rfl⟩ := hcs
      exact ⟨zs, .inr ⟨_, rfl, hl, hm, by simpa using hz, hcell, hwz⟩⟩
  clear hA0 hval0
  refine (walk a0 len0 cap0 z0 W w0).mono fun e W' ⟨he, bel⟩ => ?_
  subst he
  exact ⟨_, rfl, _, _, _, [], _, [], hW', trodAll_mk1 (shut_bool Try.underlying4 _), (trodAll_cons_mk (Below.trod laidOut (by kernel_rfl) (of_decide_eq_true (by kernel_rfl)) k0 bel lt0) trodAll_mk0), rfl, bel.frame _, fun h => by cases h⟩

theorem over : Rows.fnTouchedRow.holds Try.pinned (OpenSpec.ofChange Rows.fnTouchedSpec) :=
  OpenClaim.holds_of_wide 4 Try.f4 rfl rfl rfl rfl rfl rfl rfl ⟨rfl, rfl, rfl, rfl, rfl⟩ rfl rfl rfl rfl rfl (by kernel_rfl) Try.func4 (by kernel_rfl)
    (of_decide_eq_true (by kernel_rfl)) (by unfold Func.isWrapper; first | (rw [if_pos (by decide +kernel)]; kernel_rfl) | (rw [if_neg (by decide +kernel)]; exact ⟨rfl, rfl⟩))
    (fun os started H enc _ => lifted os started H enc)

/-- ████ THE STATEMENT ████ -/
theorem proved : Rows.FnTouchedSaid := over
#print axioms proved
end Go.Proofs.Ytmanplejhcjnaaa.fnTouched
