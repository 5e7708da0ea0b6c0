/- For every input the law FnFieldsAgain returns true and leaves its argument as it was; the listed variables of the library hold what the program's text lays (the card ties them). -/
import Derived.Test.YtmdpdfdiknfopaaDoorRows
import Derived.WalkKit
import Derived.ProofKit
import Derived.OpenShut
import Derived.ShutString
import Derived.ChangeOld
import Derived.Below
import Derived.Test.YtmdpdfdiknfopaaDoorCards
import Derived.Test.YtmdpdfdiknfopaaDoorTie
import Derived.LaidMore
import Derived.Stop.Joined
import Derived.SevenTiedAt
import Derived.MakeChecks
import Derived.Test.YtmdpdfdiknfopaaDoorSplC
import Derived.Test.YtmdpdfdiknfopaaDoorFieA
import Derived.Test.YtmdpdfdiknfopaaDoorFmtA
import Derived.Test.YtmdpdfdiknfopaaDoorDrawS
import Derived.Test.YtmdpdfdiknfopaaDoorItoa
namespace Go.Proofs.YtmdpdfdiknfopaaDoor.fnFieldsAgain
open Go.ChangeShapes Go.WideShapes Go.ChangeAt Go.RowKit
open Go.ChangeMaps (open_string shut_string)
set_option linter.unusedVariables false

theorem own : ownKnob Tryd.prog.godebug = none := by kernel_rfl
theorem laidOut : laidOutB Tryd.prog = true := by kernel_rfl

/-- WHAT THE WALK IS TOLD OF A SLICE OF INTEGERS THAT CAME IN: it is nil; or it leads to a row of 'cap' cells, the numbers 'zs' (the first 'len' are its elements, the rest its spare room), each fitting its kind. -/
def IsRow (k : IntKind) (w : World) (a : Option Addr) (len cap : Nat) (zs : List Int) : Prop :=
  (a = none ∧ len = 0 ∧ cap = 0 ∧ zs = []) ∨
  ∃ x, a = some x ∧ len ≤ cap ∧ cap ≤ maxLen ∧ zs.length = cap ∧ (∀ i, i < zs.length → w.cell? (x.add i) = some (.int k (zs.getD i 0))) ∧ ∀ n ∈ zs, (Lit.int k n).wf = true

open Go.WideMaps Go.WideElems
open Go.Proofs.YtmdpdfdiknfopaaDoor.lay Go.Proofs.YtmdpdfdiknfopaaDoor.cur Go.Proofs.YtmdpdfdiknfopaaDoor.spl
set_option maxHeartbeats 1000000 in
theorem same_any (w : World) (b1 b2 : Nat) (a a' : Option Addr) (n cap cap' : Nat) (L : List ByteArray) (hn : (n : Int) ≤ 1048576)
    (h1 : w.ownsRow b1 9 1 (.slice a n cap) n (strs L)) (h2 : w.ownsRow b2 9 1 (.slice a' n cap') n (strs L)) :
    Calls Tryd.prog 18 #[.slice a n cap, .slice a' n cap'] w fun e w' => e = .returned (.bool true) ∧ w.grownBy w' none := by
  have HC : Hid (∀ k, k < n → ∃ (g g' : Nat) (X : ByteArray), a = some ⟨g, 0, none⟩ ∧ a' = some ⟨g', 0, none⟩ ∧ w.cell? ⟨g, k, none⟩ = some (.string X) ∧ w.cell? ⟨g', k, none⟩ = some (.string X)) := by
    intro k hk
    obtain ⟨g, e1, _, _, c1, hl⟩ := own_at h1 hk
    obtain ⟨g', e2, _, _, c2, _⟩ := own_at h2 hk
    exact ⟨g, g', L[k], e1, e2, by rw [c1]; simp [hl], by rw [c2]; simp [hl]⟩
  clear h1 h2
  go_enter Tryd.func18, Tryd.ntmps18
  go_wp2
  go_loopw [5] (fun i wr => ∃ k : Nat, k ≤ n ∧ i = .int .i64 k ∧ w.grownBy wr none) (fun i _ => n - (intOf i).toNat)
  case atStart => exact ⟨0, Nat.zero_le _, rfl, grownBy_refl _ _⟩
  case round =>
    obtain ⟨k, hk, rfl, hg⟩ := hrel
    by_cases hlt : k < n
    · obtain ⟨g, g', X, rfl, rfl, c1, c2⟩ := HC.out k hlt
      have d1 := hg.cell c1 (by simp)
      have d2 := hg.cell c2 (by simp)
      have hI : (k : Int) < n := by omega
      clear c1 c2
      go_wp2
      go_quiet (fail)
      go_wp2
      go_roundw
      case rel => exact ⟨k + 1, by omega, by go_num, grownBy_drewN hg _⟩
      case measure => simp [intOf]; omega
    · go_wp2
      go_ret
      exact ⟨rfl, hg⟩

theorem str_app (a b : List UInt8) : (⟨a.toArray⟩ ++ ⟨b.toArray⟩ : ByteArray) = ⟨(a ++ b).toArray⟩ := by
  apply ByteArray.ext; simp

set_option maxHeartbeats 2000000 in
set_option maxRecDepth 100000 in
theorem walk (a0 : Option Addr) (len0 cap0 : Nat) (z0 : List Int) (w : World) (w0 : IsRow .u8 w a0 len0 cap0 z0) (hL : laidMet Tryd.prog Rows.fnFieldsAgainRow.laid w) :
    Calls Tryd.prog 5 #[.slice a0 len0 cap0] w fun e w' => e = .returned (.bool true) ∧ Below w.heap.size w w' := by
  have HT := Lib.hid (Lib.tabBelow_of_tabIs (tab_of hL))
  have HB : Hid (∀ i : Nat, i < len0 → ∃ (b off : Nat) (v : Int), a0 = some ⟨b, off, none⟩ ∧ w.cell? ⟨b, off + i, none⟩ = some (.int .u8 v)) := by
    intro i hi
    rcases w0 with ⟨_, h0, _⟩ | ⟨x, rfl, hl, _, hz, hcell, _⟩
    · omega
    · obtain ⟨b, off, rfl, hc⟩ := ints_at hcell (by omega)
      exact ⟨b, off, _, rfl, hc i (by omega)⟩
  clear w0 hL
  by_cases hbig : (1048576 : Int) < len0
  · go_enter Tryd.func5, Tryd.ntmps5
    go_wp2_with (go_at_call 8; refine (big_yes _ _ _ _ hbig).mono ?_; rintro e w1 ⟨rfl, rfl⟩)
    go_ret
    exact ⟨rfl, Below.refl _ _⟩
  · have hsm : (len0 : Int) ≤ 1048576 := by omega
    have H3 := Lib.hid (show Lib.itoa (-3) = [45, 51] by rw [Lib.itoa, if_pos (by omega)]; show 45 :: Lib.decDigits 3 = _; rw [Lib.decDigits_one (by omega)]; rfl)
    clear hbig
    go_enter Tryd.func5, Tryd.ntmps5
    go_wp2_with (first
      | (go_at_call 8; refine (big_no _ _ _ _ hsm).mono ?_; rintro e w1 ⟨rfl, rfl⟩)
      | (go_at_call 15; refine (drawS_any _ _ _ _ hsm HB.out).mono ?_; rintro e w1 ⟨t, rfl, ht, hb1⟩; refine Hid.out ?_))
    obtain ⟨l, hl⟩ : ∃ l, t.data.toList = l := ⟨_, rfl⟩
    have HLL := Lib.hid hl
    have hspec : Hid (∀ w, Calls Tryd.prog 17 #[.string t] w (SplS l w)) := fun w => by rw [← HLL.out]; exact spec_all t w
    have himpl : Hid (∀ w, Calls Tryd.prog 16 #[.string t] w (SplS l w)) := fun w => by rw [← HLL.out]; exact impl_all t w
    clear hl
    by_cases hok : okB l = true
    · refine Lib.hid ?_
      go_wp2_with (go_at_call 16; refine (himpl.out _).mono ?_; rintro e w2 ⟨a1, n, cap1, L, rfl, ho1, hLL, hn, hb2⟩; refine Hid.out ?_)
      have HO1 := Lib.hid ho1
      have hb12 := hb1.trans (hb2.mono hb1.size)
      have hbd := fields_bd l
      have hn24 : (n : Int) ≤ 24 := by have := hn.out; omega
      clear ho1 hbd hb2
      refine Lib.hid ?_
      go_wp2_with (go_at_call 17; refine (hspec.out _).mono ?_; rintro e w3 ⟨a2, n2, cap2, L2, rfl, ho2, hLL2, hn2, hb3⟩; refine Hid.out ?_)
      have HO2 := Lib.hid (HO1.out.kept (below_kept hb3) (by cases a1 <;> simp [Value.ownBlock]))
      have hb13 := hb12.trans (hb3.mono hb12.size)
      have HJ := Lib.hid (join_size l hok)
      have HC : Hid (∀ k, (hk : k < n) → ∃ (g : Nat), a1 = some ⟨g, 0, none⟩ ∧ w3.cell? ⟨g, k, none⟩ = some (.string ⟨((fieldsR l)[k]'(by rw [← hn.out]; exact hk)).toArray⟩)) := by
        intro k hk
        obtain ⟨g, e1, _, _, c1, hlk⟩ := own_at HO2.out hk
        refine ⟨g, e1, ?_⟩
        have hk2 : k < (fieldsR l).length := by rw [← hn.out]; exact hk
        rw [c1, hLL.out]; simp [hk2]
      clear ho2 hb3
      refine Lib.hid ?_
      go_wp2
      go_loop [8, 9] (fun s i => ∃ (k : Nat) (A : List UInt8), k ≤ n ∧ i = .int .i64 k ∧ s = .string ⟨A.toArray⟩ ∧ Hid (A = joinF ((fieldsR l).take k)) ∧ (A.length : Int) ≤ 1201) (fun _ i => n - (intOf i).toNat)
      case atStart => exact ⟨0, [], Nat.zero_le _, rfl, rfl, by show [] = _; simp [joinF], by simp⟩
      case round =>
        obtain ⟨k, A, hk, rfl, rfl, hA, hA1⟩ := hrel
        by_cases hlt : k < n
        · obtain ⟨g, rfl, hc⟩ := HC.out k hlt
          have hk2 : k < (fieldsR l).length := by rw [← hn.out]; exact hlt
          obtain ⟨f, hf⟩ : ∃ f, (fieldsR l)[k] = f := ⟨_, rfl⟩
          rw [hf] at hc
          have hJ := join_take (fieldsR l) k hk2
          rw [← hA.out, hf] at hJ
          have hJL := join_take_le (fieldsR l) (k + 1)
          rw [hJ] at hJL
          have hsz := HJ.out
          have hAl : ((A ++ f ++ [32]).length : Int) ≤ 1201 := by omega
          have hAl2 : A.length + f.length ≤ 1201 := by simp at hAl; omega
          have HA2 := Lib.hid hJ.symm
          have hadd1 := run_string_add_sum (P := Tryd.prog) w3 ⟨A.toArray⟩ ⟨f.toArray⟩ (by simp [ByteArray.size]; omega)
          rw [str_app] at hadd1
          have hadd2 := run_string_add_sum (P := Tryd.prog) w3 ⟨(A ++ f).toArray⟩ ⟨#[32]⟩ (by simp [ByteArray.size]; omega)
          rw [show (⟨(A ++ f).toArray⟩ ++ ⟨#[32]⟩ : ByteArray) = ⟨(A ++ f ++ [32]).toArray⟩ from str_app (A ++ f) [32]] at hadd2
          obtain ⟨B, hB⟩ : ∃ B, A ++ f = B := ⟨_, rfl⟩
          obtain ⟨C, hC⟩ : ∃ C, B ++ [32] = C := ⟨_, rfl⟩
          rw [hB] at hadd1 hadd2 hAl HA2
          rw [hC] at hadd2 hAl HA2
          have hI : (k : Int) < n := by omega
          have HAL := Lib.hid hAl
          clear hJ hJL hsz hf hAl hAl2 hB hC
          go_wp2
          go_round
          case rel => exact ⟨k + 1, C, by omega, by go_num, rfl, HA2, HAL.out⟩
          case measure => simp [intOf]; omega
        · have hAF : A = joinF (fieldsR l) := by rw [hA.out, List.take_of_length_le (by rw [← hn.out]; omega)]
          have HAF := Lib.hid hAF
          clear hAF
          by_cases h6 : (600 : Int) < A.length
          · go_wp2_with (go_at_call 16; refine (impl_list A _).mono ?_; rintro e w4 ⟨a3, n3, cap3, L3, rfl, ho3, hLL3, hn3, hb4⟩)
            go_ret
            exact ⟨rfl, hb13.trans (hb4.mono hb13.size)⟩
          · have hag := again hok (by rw [← HAF.out]; omega)
            rw [← HAF.out] at hag
            obtain ⟨hok2, hfr⟩ := hag
            have HFR := Lib.hid hfr
            clear hfr
            go_wp2_with (go_at_call 16; refine (impl_list A _).mono ?_; rintro e w4 ⟨a3, n3, cap3, L3, rfl, ho3, hLL3, hn3, hb4⟩; refine Hid.out ?_)
            obtain rfl : n3 = n := by rw [hn3.out, HFR.out, ← hn.out]
            obtain rfl : L3 = L := by rw [hLL3.out, HFR.out, ← hLL.out]
            have HO3 := Lib.hid ho3
            have HO4 := Lib.hid (HO2.out.kept (below_kept hb4) (by cases a1 <;> simp [Value.ownBlock]))
            have hb14 := hb13.trans (hb4.mono hb13.size)
            clear ho3 hb4
            refine Lib.hid ?_
            go_wp2_with (go_at_call 18; refine (same_any _ _ _ _ _ _ _ _ _ (by omega) HO4.out HO3.out).mono ?_; rintro e w5 ⟨rfl, hg5⟩)
            go_ret
            exact ⟨rfl, hb14.trans ⟨hg5.os, hg5.tape, hg5.output, hg5.size, fun k hk => hg5.block k (by have := hb14.size; omega) (by simp)⟩⟩
    · have hokf : okB l = false := by cases h : okB l <;> simp_all
      have HF := Lib.hid (fieldsR_bad hokf)
      clear hok
      refine Lib.hid ?_
      go_wp2_with (go_at_call 16; refine (himpl.out _).mono ?_; rintro e w2 ⟨a1, n, cap1, L, rfl, ho1, hLL, hn, hb2⟩; refine Hid.out ?_)
      obtain rfl : n = 0 := by rw [hn.out, HF.out]; rfl
      have hb12 := hb1.trans (hb2.mono hb1.size)
      clear ho1 hb2
      refine Lib.hid ?_
      go_wp2_with (go_at_call 17; refine (hspec.out _).mono ?_; rintro e w3 ⟨a2, n2, cap2, L2, rfl, ho2, hLL2, hn2, hb3⟩; refine Hid.out ?_)
      have hb13 := hb12.trans (hb3.mono hb12.size)
      clear ho2 hb3
      refine Lib.hid ?_
      go_wp2_with (go_at_call 11; refine (impl_fmt (-3) (by omega) (by omega) _ (HT.out.on hb13).here).mono ?_; rw [H3.out]; rintro e w4 ⟨rfl, hb4⟩)
      go_ret
      exact ⟨rfl, hb13.trans (hb4.mono hb13.size)⟩

/-! ### THE ROW's STEP: WRITTEN OUT: LEAVE IT -/
/-- The door's own heap meets the condition: three closed facts. -/
theorem door_met (os : Os) (args : Array Value) : laidMetH Tryd.prog Rows.fnFieldsAgainRow.laid ((World.doorLaid Tryd.prog 400 os).forCall (fun _ _ => 0) ⟨#[], args, []⟩).memory :=
  laidMetH_of_parts3 (fuel := 8) (laidMet_of_run' 8 (by kernel_rfl) (by kernel_rfl)) (by kernel_rfl) (by kernel_rfl)

set_option maxRecDepth 100000 in
theorem lifted (os : Os) (started : os.Started) (H : Type) (enc : TypeId × Value → H) :
    ReturnsInHanded {} Tryd.checked os 5 .any (fun w args => (Rows.fnFieldsAgainSpec.pre enc Tryd.prog Tryd.f5 [] false w args ∧ laidMetH Tryd.prog Rows.fnFieldsAgainRow.laid w) ∧ sizedMet enc Tryd.prog Tryd.f5 (OpenSpec.ofChange Rows.fnFieldsAgainSpec) false w args) (Rows.fnFieldsAgainSpec.post enc Tryd.prog Tryd.f5 false true false false) := by
  refine returnsInHanded_of_change_and (C := Tryd.checked) (X := fun w _ => laidMetH Tryd.prog Rows.fnFieldsAgainRow.laid w) (fun _ _ _ hh h => h.of_heap hh) own started (by kernel_rfl) Tryd.func5
    (ChangeSpec.witness_shaped (enc := enc) (C := Tryd.checked) (os := os) (X := fun w _ => laidMetH Tryd.prog Rows.fnFieldsAgainRow.laid w) false (World.doorLaid Tryd.prog 400 os) #[.slice none 0 0] 8 rfl (World.shaped_of_RefB (by kernel_rfl) (by kernel_rfl)) (by kernel_rfl) (by kernel_rfl) (by kernel_rfl) (door_met os _)) ?_
  intro W base args ds gs before hval0 hW hcnd _ hL _
  have hLm : laidMet Tryd.prog Rows.fnFieldsAgainRow.laid W := by rw [MakeChecks.laidMetH_plain _ _ _ (by kernel_rfl)] at hL; exact hL
  have hval : ∀ (j : Nat) t v, Tryd.f5.params[j]? = some t → args[j]? = some v → Value.okWide Tryd.prog W .any base t v := hval0
  have hW' := hW
  obtain ⟨p, q, hA0, hV, rfl, hfz, hnd⟩ := hW
  have hA : DataW.TrodAll enc Tryd.prog W 0 (fun _ => true) true Tryd.f5.params.toList args.toList ds p := hA0
  rw [Tryd.params5] at hA hval
  obtain ⟨v0, vs0, d0, ds0, p0, q0, hargs, rfl, rfl, h0, r0⟩ := trodAll_cons hA
  obtain ⟨rfl, rfl, rfl⟩ := trodAll_nil r0
  obtain rfl : args = #[v0] := by cases args; simp_all
  obtain ⟨rfl, rfl⟩ := trodVars_none hV
  obtain ⟨a0, len0, cap0, rfl⟩ := okWide_slice Tryd.underlying22 (hval 0 22 v0 rfl rfl)
  have k0 := h0
  have lt0 : ∀ x ∈ p0, x.block < W.heap.size := by obtain ⟨m, hm⟩ := k0; exact DataW.trod_lt m _ _ _ hm
  obtain ⟨z0, w0⟩ : ∃ zs, IsRow .u8 W a0 len0 cap0 zs := by
    obtain ⟨fuel, hf⟩ := h0
    rcases open_ints Tryd.underlying22 Tryd.underlying5 (by kernel_rfl) hf with ⟨hcs, _⟩ | ⟨x, l, c, zs, hcs, _, hl, hm, hz, _, hcell, hwz⟩
    · simp [Value.cells] at hcs
      obtain ⟨rfl, rfl, rfl⟩ := hcs
      exact ⟨[], .inl ⟨rfl, rfl, rfl, rfl⟩⟩
    · simp [Value.cells] at hcs
      obtain ⟨rfl, rfl, rfl⟩ := hcs
      exact ⟨zs, .inr ⟨_, rfl, hl, hm, by simpa using hz, hcell, hwz⟩⟩
  clear hA0 hval0
  refine (walk a0 len0 cap0 z0 W w0 hLm).mono fun e W' ⟨he, bel⟩ => ?_
  subst he
  exact ⟨_, rfl, _, _, _, [], _, [], hW', trodAll_mk1 (shut_bool Tryd.underlying4 _), (trodAll_cons_mk (Below.trod laidOut (by kernel_rfl) (of_decide_eq_true (by kernel_rfl)) k0 bel lt0) trodAll_mk0), rfl, bel.frame _, fun h => by cases h⟩

theorem over : Rows.fnFieldsAgainRow.holds Tryd.pinned (OpenSpec.ofChange Rows.fnFieldsAgainSpec) :=
  OpenClaim.holds_of_wide 5 Tryd.f5 rfl rfl rfl rfl rfl rfl rfl ⟨rfl, rfl, rfl, rfl, rfl⟩ rfl rfl rfl rfl rfl (by kernel_rfl) Tryd.func5 (by kernel_rfl)
    (of_decide_eq_true (by kernel_rfl)) (by unfold Func.isWrapper; first | (rw [if_pos (by decide +kernel)]; kernel_rfl) | (rw [if_neg (by decide +kernel)]; exact ⟨rfl, rfl⟩))
    (fun os started H enc _ => lifted os started H enc)

/-- ████ THE STATEMENT: THE TIED CARD ████ -/
theorem proved : Rows.FnFieldsAgainCardSaid :=
  Claim7.holds_tied_plain_at .later [] [.data, .data, .data] true (true, "c8d178f6836823b44c2057338241096b88f0febc60657a764f9d97df2a784de9") true
    over (fun _ h => by cases h) (by kernel_rfl) (fun _ h => by cases h) fnFieldsAgain_row_tie rfl ⟨rfl, rfl⟩ (by kernel_rfl) rfl
    (fun f fn hf hfn => by
      obtain rfl : f = 5 := Option.some.inj ((show Tryd.prog.funcNamed "loop.example/g00983/laws.FnFieldsAgain" = some 5 by kernel_rfl).symm.trans hf) |>.symm
      obtain rfl : fn = Tryd.f5 := (Option.some.inj (Tryd.func5.symm.trans hfn)).symm
      exact ⟨by kernel_rfl, fun j t ht => by
        rw [Tryd.params5] at ht
        have hm : t ∈ [22] := by simpa using Array.mem_of_getElem? ht
        have hall : ([22].all fun u => !Tryd.prog.wantsStandIn u) = true := by kernel_rfl
        exact (show Tryd.prog.wantsStandIn t = false by simpa using List.all_eq_true.1 hall t hm)⟩)
    (by kernel_rfl)
#print axioms proved
end Go.Proofs.YtmdpdfdiknfopaaDoor.fnFieldsAgain
