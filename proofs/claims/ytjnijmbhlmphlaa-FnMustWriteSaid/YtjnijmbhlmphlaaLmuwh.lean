/- For every input the law FnMustWrite returns true and leaves its argument as it was; no condition. -/
import Derived.Test.YtjnijmbhlmphlaaRows
import Derived.WalkKit
import Derived.ProofKit
import Derived.OpenShut
import Derived.ShutString
import Derived.ChangeOld
import Derived.Below
import Derived.Test.YtjnijmbhlmphlaaGHub30
import Derived.Test.YtjnijmbhlmphlaaGHub31
import Derived.Test.YtjnijmbhlmphlaaGHub24
import Derived.Test.YtjnijmbhlmphlaaGHub28
import Derived.Test.YtjnijmbhlmphlaaGHub36
namespace Go.Proofs.Ytjnijmbhlmphlaa.fnMustWrite
open Go.ChangeShapes Go.WideShapes Go.ChangeAt Go.RowKit
open Go.ChangeMaps (open_string shut_string)
set_option linter.unusedVariables false

theorem own : ownKnob Try.prog.godebug = none := by kernel_rfl
theorem laidOut : laidOutB Try.prog = true := by kernel_rfl

/-- WHAT THE WALK IS TOLD OF A SLICE OF INTEGERS THAT CAME IN: it is nil; or it leads to a row of 'cap' cells, the numbers 'zs' (the first 'len' are its elements, the rest its spare room), each fitting its kind. -/
def IsRow (k : IntKind) (w : World) (a : Option Addr) (len cap : Nat) (zs : List Int) : Prop :=
  (a = none ∧ len = 0 ∧ cap = 0 ∧ zs = []) ∨
  ∃ x, a = some x ∧ len ≤ cap ∧ cap ≤ maxLen ∧ zs.length = cap ∧ (∀ i, i < zs.length → w.cell? (x.add i) = some (.int k (zs.getD i 0))) ∧ ∀ n ∈ zs, (Lit.int k n).wf = true

open Go.Proofs.Ytjnijmbhlmphlaa.row Go.Proofs.Ytjnijmbhlmphlaa.val Go.Proofs.Ytjnijmbhlmphlaa.expr Go.Proofs.Ytjnijmbhlmphlaa.stm Go.Proofs.Ytjnijmbhlmphlaa.blk Go.Proofs.Ytjnijmbhlmphlaa.cur Go.Proofs.Ytjnijmbhlmphlaa.sets
theorem is_ex (p : Nat → Prop) : ∃ f, Is f p := by
  classical exact ⟨fun v => decide (p v), fun v _ => decide_eq_true_iff⟩
theorem noif_eq {B : List Sm} {n v : Nat} (h : ∀ (j : Nat) (s : Sm), B[j]? = some s → s.k ≠ 4) : WAt B n v ↔ MayTo B n v :=
  ⟨fun ⟨j, hj, hw, _⟩ => ⟨j, hj, hw⟩, fun ⟨j, hj, hw⟩ => ⟨j, hj, hw, fun i ⟨_, s, hs, h4, _⟩ => absurd h4 (h i s hs)⟩⟩
set_option maxHeartbeats 8000000 in
set_option maxRecDepth 100000 in
theorem walk (a0 : Option Addr) (len0 cap0 : Nat) (z0 : List Int) (w : World) (w0 : IsRow .u8 w a0 len0 cap0 z0) :
    Calls Try.prog 3 #[.slice a0 len0 cap0] w fun e w' => e = .returned (.bool true) ∧ Below w.heap.size w w' := by
  have HB : Hid (∀ i : Nat, i < len0 → ∃ (b off : Nat) (v : Int), a0 = some ⟨b, off, none⟩ ∧ w.cell? ⟨b, off + i, none⟩ = some (.int .u8 v)) := by
    intro i hi
    rcases w0 with ⟨_, h0, _⟩ | ⟨x, rfl, hl, _, hz, hcell, _⟩
    · omega
    · obtain ⟨b, off, rfl, hc⟩ := ints_at hcell (by omega)
      exact ⟨b, off, _, rfl, hc i (by omega)⟩
  clear w0
  by_cases hbig : (1048576 : Int) < len0
  · go_enter Try.func3, Try.ntmps3
    go_wp2_with (go_at_call 8; refine (big_yes _ _ _ _ hbig).mono ?_; rintro e w1 ⟨rfl, rfl⟩)
    go_ret
    exact ⟨rfl, Below.refl _ _⟩
  · have hsm : (len0 : Int) ≤ 1048576 := by omega
    clear hbig
    go_enter Try.func3, Try.ntmps3
    go_wp2_with (first
      | (go_at_call 8; refine (big_no _ _ _ _ hsm).mono ?_; rintro e w1 ⟨rfl, rfl⟩)
      | (go_at_call 9; refine (drawblock_any _ _ _ _ hsm HB.out).mono ?_; rintro e w1 ⟨g, n, c, L, rfl, HK, hn, ho1, hb1⟩; refine Hid.out ?_))
    have hlen : L.length = n := by have := ho1.1; rw [stsC_len] at this; omega
    have HLN := Lib.hid hlen
    have hnc : n ≤ c := own_le ho1
    have H1 := Lib.hid (And.intro (StRow.of_own ho1) hb1)
    have hnI : (n : Int) ≤ 1048576 := by omega
    obtain ⟨fm, hfm⟩ := is_ex (fun v => IsBlk L ∧ MayTo L n v)
    obtain ⟨fu, hfu⟩ := is_ex (fun v => IsBlk L ∧ WAt L n v)
    obtain ⟨M, hM⟩ : ∃ M, lst fm 8 = M := ⟨_, rfl⟩
    obtain ⟨U, hU⟩ : ∃ U, lst fu 8 = U := ⟨_, rfl⟩
    have hM8 : M.length ≤ 8 := by rw [← hM]; exact lst_len fm 8
    have hU8 : U.length ≤ 8 := by rw [← hU]; exact lst_len fu 8
    have HIM := Lib.hid (show ∀ (w' : World), StRow w' (some ⟨g, 0, none⟩) n L → Calls Try.prog 10 #[.slice (some ⟨g, 0, none⟩) n c] w' (NewInts w' M) from fun w' h => by rw [← hM]; exact impl_maywrite (some ⟨g, 0, none⟩) n c L hnI hnc w' h fm hfm)
    have HIU := Lib.hid (show ∀ (w' : World), StRow w' (some ⟨g, 0, none⟩) n L → Calls Try.prog 11 #[.slice (some ⟨g, 0, none⟩) n c] w' (NewInts w' U) from fun w' h => by rw [← hU]; exact impl_mustwrite (some ⟨g, 0, none⟩) n c L hnI hnc w' h fu hfu)
    have HSM := Lib.hid (show ∀ (w' : World), StRow w' (some ⟨g, 0, none⟩) n L → Calls Try.prog 12 #[.slice (some ⟨g, 0, none⟩) n c] w' (NewInts w' M) from fun w' h => by rw [← hM]; exact spec_maywrite (some ⟨g, 0, none⟩) n c L hnI w' h fm hfm)
    have HSUB := Lib.hid (show ∀ k, k < 8 → fu k = true → fm k = true from fun k hk h => (hfm k hk).2 ⟨HK.out, by obtain ⟨_, j, h1, h2, _⟩ := (hfu k hk).1 h; exact ⟨j, h1, h2⟩⟩)
    have HNO := Lib.hid (show (∀ (j : Nat) (s : Sm), L[j]? = some s → s.k ≠ 4) → ∀ k, k < 8 → fm k = fu k from fun hno k hk => by
      rw [Bool.eq_iff_iff, hfm k hk, hfu k hk]; exact and_congr Iff.rfl (noif_eq hno).symm)
    have HMM := Lib.hid hM
    have HUU := Lib.hid hU
    clear ho1 hb1 hlen hfm hfu hM hU hn
    refine Lib.hid ?_
    go_wp2_with (go_at_call 10; (with_reducible refine (HIM.out _ H1.out.1).mono ?_); rintro e w2 ⟨ad2, n2, cap2, rfl, ho2, hb2⟩; refine Hid.out ?_)
    have H2 := Lib.hid (And.intro ho2 (And.intro (H1.out.1.below hb2) (below_then H1.out.2 hb2)))
    clear ho2 hb2
    refine Lib.hid ?_
    go_wp2_with (go_at_call 11; (with_reducible refine (HIU.out _ H2.out.2.1).mono ?_); rintro e w3 ⟨ad3, n3, cap3, rfl, ho3, hb3⟩; refine Hid.out ?_)
    have H3 := Lib.hid (And.intro (Row.of_own (H2.out.1.kept (grown_below hb3 none) (by cases ad2 <;> simp [Value.ownBlock]))) (And.intro (Row.of_own ho3) (And.intro (H2.out.2.1.below hb3) (below_then H2.out.2.2 hb3))))
    clear ho3 hb3
    refine Lib.hid ?_
    go_wp2_with (go_at_call 12; (with_reducible refine (HSM.out _ H3.out.2.2.1).mono ?_); rintro e w4 ⟨ad4, n4, cap4, rfl, ho4, hb4⟩; refine Hid.out ?_)
    obtain rfl : n4 = n2 := by have h1 := own_len ho4; have h2 := H3.out.1.1; omega
    have H4 := Lib.hid (And.intro (H3.out.1.below hb4) (And.intro (H3.out.2.1.below hb4) (And.intro (H3.out.2.2.1.below hb4) (below_then H3.out.2.2.2 hb4))))
    have hn4 : (n4 : Int) ≤ 8 := by have := H3.out.1.1; omega
    have hn3 : (n3 : Int) ≤ 8 := by have := H3.out.2.1.1; omega
    clear ho4 hb4
    have HHM := Lib.hid (show ∀ (k : Nat) (r : Bool), decide ((k : Int) ∈ M) = r → Calls Try.prog 13 #[.slice ad2 n4 cap2, .int .i64 (k : Int)] w4 (RetB w4 r) from fun k r h => has_any w4 ad2 n4 cap2 M k r (by omega) H4.out.1 h)
    have HHU := Lib.hid (show ∀ (k : Nat) (r : Bool), decide ((k : Int) ∈ U) = r → Calls Try.prog 13 #[.slice ad3 n3 cap3, .int .i64 (k : Int)] w4 (RetB w4 r) from fun k r h => has_any w4 ad3 n3 cap3 U k r (by omega) H4.out.2.1 h)
    have HHV := Lib.hid (show ∀ (k : Nat) (r : Bool), decide ((k : Int) ∈ M) = r → Calls Try.prog 14 #[.slice ad2 n4 cap2, .int .i64 (k : Int)] w4 (RetB w4 r) from fun k r h => impl_hasvar w4 ad2 n4 cap2 M k r (by omega) H4.out.1 h)
    refine Lib.hid ?_
    go_wp2
    go_loop [6, 7] (fun pl i => ∃ (k : Nat) (b : Bool), k ≤ n ∧ i = .int .i64 k ∧ pl = .bool b ∧ Hid (b = true → ∀ (j : Nat) (s : Sm), j < k → L[j]? = some s → s.k ≠ 4)) (fun _ i => n - (intOf i).toNat)
    case atStart => exact ⟨0, true, Nat.zero_le _, rfl, rfl, fun _ j s h => by omega⟩
    case round =>
      obtain ⟨k, b, hk, rfl, rfl, HP⟩ := hrel
      by_cases hlt : k < n
      · have hI : (k : Int) < n := by omega
        obtain ⟨gb, off, s, he, hlb, hs, hrs⟩ := H4.out.2.2.1.2 k hlt
        cases he
        have HS := Lib.hid hs
        have c0 : w4.cell? ⟨g, k * 6, none⟩ = some (.int .i64 s.k) := by have h9 := (range6 hrs).1; rw [Nat.zero_add] at h9; exact h9
        clear hs hrs
        cases b
        · go_wp2
          go_round
          case rel => exact ⟨k + 1, false, by omega, by go_num, rfl, fun h => by cases h⟩
          case measure => simp [intOf]; omega
        · by_cases h4 : s.k = 4
          · rw [h4] at c0
            clear h4
            go_wp2
            go_round
            case rel => exact ⟨k + 1, false, by omega, by go_num, rfl, fun h => by cases h⟩
            case measure => simp [intOf]; omega
          · have hne : (s.k != 4) = true := by simpa using h4
            have HP1 := Lib.hid (show ∀ (j : Nat) (s' : Sm), j < k + 1 → L[j]? = some s' → s'.k ≠ 4 from fun j s' hj hs' => by
              by_cases e : j = k
              · subst e; rw [HS.out] at hs'; cases hs'; exact h4
              · exact HP.out rfl j s' (by omega) hs')
            clear h4
            go_wp2
            go_round
            case rel => exact ⟨k + 1, true, by omega, by go_num, rfl, fun _ => HP1.out⟩
            case measure => simp [intOf]; omega
      · obtain rfl : k = n := by omega
        have hI : ¬ (k : Int) < k := by omega
        cases b
        · clear HP
          go_wp2
          go_loop [8] (fun i => ∃ k : Nat, k ≤ 8 ∧ i = .int .i64 k) (fun i => 8 - (intOf i).toNat)
          case atStart => exact ⟨0, Nat.zero_le _, rfl⟩
          case round =>
            obtain ⟨k, hk, rfl⟩ := hrel
            by_cases hlt : k < 8
            · have hI : (k : Int) < 8 := by omega
              have hMk : decide ((k : Int) ∈ M) = fm k := by rw [← HMM.out, Bool.eq_iff_iff, decide_eq_true_eq, lst_mem]; simp [hlt]
              have hUk : decide ((k : Int) ∈ U) = fu k := by rw [← HUU.out, Bool.eq_iff_iff, decide_eq_true_eq, lst_mem]; simp [hlt]
              rcases hm : fm k <;> rcases hu : fu k
              · have HM1 := Lib.hid (HHM.out k false (by rw [hMk]; exact hm))
                have HU1 := Lib.hid (HHU.out k false (by rw [hUk]; exact hu))
                have HV1 := Lib.hid (HHV.out k false (by rw [hMk]; exact hm))
                clear hm hu hMk hUk
                go_wp2_with (first
                  | (go_at_call 13; (with_reducible refine HM1.out.mono ?_); rintro e w' ⟨rfl, rfl⟩)
                  | (go_at_call 13; (with_reducible refine HU1.out.mono ?_); rintro e w' ⟨rfl, rfl⟩)
                  | (go_at_call 14; (with_reducible refine HV1.out.mono ?_); rintro e w' ⟨rfl, rfl⟩))
                go_round
                case rel => exact ⟨k + 1, by omega, by go_num⟩
                case measure => simp [intOf]; omega
              · exfalso; exact absurd (HSUB.out k hlt hu) (by rw [hm]; simp)
              · have HM1 := Lib.hid (HHM.out k true (by rw [hMk]; exact hm))
                have HU1 := Lib.hid (HHU.out k false (by rw [hUk]; exact hu))
                have HV1 := Lib.hid (HHV.out k true (by rw [hMk]; exact hm))
                clear hm hu hMk hUk
                go_wp2_with (first
                  | (go_at_call 13; (with_reducible refine HM1.out.mono ?_); rintro e w' ⟨rfl, rfl⟩)
                  | (go_at_call 13; (with_reducible refine HU1.out.mono ?_); rintro e w' ⟨rfl, rfl⟩)
                  | (go_at_call 14; (with_reducible refine HV1.out.mono ?_); rintro e w' ⟨rfl, rfl⟩))
                go_round
                case rel => exact ⟨k + 1, by omega, by go_num⟩
                case measure => simp [intOf]; omega
              · have HM1 := Lib.hid (HHM.out k true (by rw [hMk]; exact hm))
                have HU1 := Lib.hid (HHU.out k true (by rw [hUk]; exact hu))
                have HV1 := Lib.hid (HHV.out k true (by rw [hMk]; exact hm))
                clear hm hu hMk hUk
                go_wp2_with (first
                  | (go_at_call 13; (with_reducible refine HM1.out.mono ?_); rintro e w' ⟨rfl, rfl⟩)
                  | (go_at_call 13; (with_reducible refine HU1.out.mono ?_); rintro e w' ⟨rfl, rfl⟩)
                  | (go_at_call 14; (with_reducible refine HV1.out.mono ?_); rintro e w' ⟨rfl, rfl⟩))
                go_round
                case rel => exact ⟨k + 1, by omega, by go_num⟩
                case measure => simp [intOf]; omega

            · obtain rfl : k = 8 := by omega
              have hI : ¬ ((8 : Nat) : Int) < 8 := by omega
              go_wp2
              go_ret
              exact ⟨rfl, H4.out.2.2.2⟩
        · have HEQ := Lib.hid (show ∀ q, q < 8 → fm q = fu q from HNO.out (fun j s hs => HP.out rfl j s (by have := (List.getElem?_eq_some_iff.1 hs).1; have := HLN.out; omega) hs))
          clear HP
          go_wp2
          go_loop [8] (fun i => ∃ k : Nat, k ≤ 8 ∧ i = .int .i64 k) (fun i => 8 - (intOf i).toNat)
          case atStart => exact ⟨0, Nat.zero_le _, rfl⟩
          case round =>
            obtain ⟨k, hk, rfl⟩ := hrel
            by_cases hlt : k < 8
            · have hI : (k : Int) < 8 := by omega
              have hMk : decide ((k : Int) ∈ M) = fm k := by rw [← HMM.out, Bool.eq_iff_iff, decide_eq_true_eq, lst_mem]; simp [hlt]
              have hUk : decide ((k : Int) ∈ U) = fu k := by rw [← HUU.out, Bool.eq_iff_iff, decide_eq_true_eq, lst_mem]; simp [hlt]
              rcases hm : fm k <;> rcases hu : fu k
              · have HM1 := Lib.hid (HHM.out k false (by rw [hMk]; exact hm))
                have HU1 := Lib.hid (HHU.out k false (by rw [hUk]; exact hu))
                have HV1 := Lib.hid (HHV.out k false (by rw [hMk]; exact hm))
                clear hm hu hMk hUk
                go_wp2_with (first
                  | (go_at_call 13; (with_reducible refine HM1.out.mono ?_); rintro e w' ⟨rfl, rfl⟩)
                  | (go_at_call 13; (with_reducible refine HU1.out.mono ?_); rintro e w' ⟨rfl, rfl⟩)
                  | (go_at_call 14; (with_reducible refine HV1.out.mono ?_); rintro e w' ⟨rfl, rfl⟩))
                go_round
                case rel => exact ⟨k + 1, by omega, by go_num⟩
                case measure => simp [intOf]; omega
              · exfalso; exact absurd (HSUB.out k hlt hu) (by rw [hm]; simp)
              · exfalso; have := HEQ.out k hlt; rw [hm, hu] at this; cases this
              · have HM1 := Lib.hid (HHM.out k true (by rw [hMk]; exact hm))
                have HU1 := Lib.hid (HHU.out k true (by rw [hUk]; exact hu))
                have HV1 := Lib.hid (HHV.out k true (by rw [hMk]; exact hm))
                clear hm hu hMk hUk
                go_wp2_with (first
                  | (go_at_call 13; (with_reducible refine HM1.out.mono ?_); rintro e w' ⟨rfl, rfl⟩)
                  | (go_at_call 13; (with_reducible refine HU1.out.mono ?_); rintro e w' ⟨rfl, rfl⟩)
                  | (go_at_call 14; (with_reducible refine HV1.out.mono ?_); rintro e w' ⟨rfl, rfl⟩))
                go_round
                case rel => exact ⟨k + 1, by omega, by go_num⟩
                case measure => simp [intOf]; omega

            · obtain rfl : k = 8 := by omega
              have hI : ¬ ((8 : Nat) : Int) < 8 := by omega
              go_wp2
              go_ret
              exact ⟨rfl, H4.out.2.2.2⟩

/-! ### THE ROW's STEP: WRITTEN OUT: LEAVE IT -/
set_option maxRecDepth 100000 in
theorem lifted (os : Os) (started : os.Started) (H : Type) (enc : TypeId × Value → H) :
    ReturnsInHanded {} Try.checked os 3 .any (Rows.fnMustWriteSpec.pre6 enc Try.prog Try.f3 Rows.fnMustWriteRow.domain false) (Rows.fnMustWriteSpec.post enc Try.prog Try.f3 false true false false) := by
  refine returnsInHanded_of_change (C := Try.checked) own started (by kernel_rfl) Try.func3
    (ChangeSpec.witness6 (enc := enc) (C := Try.checked) false ⟨#[], #[.slice none 0 0], []⟩ 8 (by kernel_rfl) (by kernel_rfl) (by kernel_rfl) (by kernel_rfl)) ?_
  intro W base args ds gs before hval0 hW hcnd _
  have hval : ∀ (j : Nat) t v, Try.f3.params[j]? = some t → args[j]? = some v → Value.okWide Try.prog W .any base t v := hval0
  have hW' := hW
  obtain ⟨p, q, hA0, hV, rfl, hfz, hnd⟩ := hW
  have hA : DataW.TrodAll enc Try.prog W 0 (fun _ => true) true Try.f3.params.toList args.toList ds p := hA0
  rw [Try.params3] at hA hval
  obtain ⟨v0, vs0, d0, ds0, p0, q0, hargs, rfl, rfl, h0, r0⟩ := trodAll_cons hA
  obtain ⟨rfl, rfl, rfl⟩ := trodAll_nil r0
  obtain rfl : args = #[v0] := by cases args; simp_all
  obtain ⟨rfl, rfl⟩ := trodVars_none hV
  obtain ⟨a0, len0, cap0, rfl⟩ := okWide_slice Try.underlying22 (hval 0 22 v0 rfl rfl)
  have k0 := h0
  have lt0 : ∀ x ∈ p0, x.block < W.heap.size := by obtain ⟨m, hm⟩ := k0; exact DataW.trod_lt m _ _ _ hm
  obtain ⟨z0, w0⟩ : ∃ zs, IsRow .u8 W a0 len0 cap0 zs := by
    obtain ⟨fuel, hf⟩ := h0
    rcases open_ints Try.underlying22 Try.underlying5 (by kernel_rfl) hf with ⟨hcs, _⟩ | ⟨x, l, c, zs, hcs, _, hl, hm, hz, _, hcell, hwz⟩
    · simp [Value.cells] at hcs
      obtain ⟨rfl, rfl, rfl⟩ := hcs
      exact ⟨[], .inl ⟨rfl, rfl, rfl, rfl⟩⟩
    · simp [Value.cells] at hcs
      obtain ⟨rfl, rfl, rfl⟩ := hcs
      exact ⟨zs, .inr ⟨_, rfl, hl, hm, by simpa using hz, hcell, hwz⟩⟩
  clear hA0 hval0
  refine (walk a0 len0 cap0 z0 W w0).mono fun e W' ⟨he, bel⟩ => ?_
  subst he
  exact ⟨_, rfl, _, _, _, [], _, [], hW', trodAll_mk1 (shut_bool Try.underlying4 _), (trodAll_cons_mk (Below.trod laidOut (by kernel_rfl) (of_decide_eq_true (by kernel_rfl)) k0 bel lt0) trodAll_mk0), rfl, bel.frame _, fun h => by cases h⟩

theorem over : Rows.fnMustWriteRow.holds Try.pinned (OpenSpec.ofChange Rows.fnMustWriteSpec) :=
  OpenClaim.holds_of_wide 3 Try.f3 rfl rfl rfl rfl rfl rfl rfl ⟨rfl, rfl, rfl, rfl, rfl⟩ rfl rfl rfl rfl rfl (by kernel_rfl) Try.func3 (by kernel_rfl)
    (of_decide_eq_true (by kernel_rfl)) (by unfold Func.isWrapper; first | (rw [if_pos (by decide +kernel)]; kernel_rfl) | (rw [if_neg (by decide +kernel)]; exact ⟨rfl, rfl⟩))
    (fun os started H enc _ => lifted os started H enc)

/-- ████ THE STATEMENT ████ -/
theorem proved : Rows.FnMustWriteSaid := over
#print axioms proved
end Go.Proofs.Ytjnijmbhlmphlaa.fnMustWrite
