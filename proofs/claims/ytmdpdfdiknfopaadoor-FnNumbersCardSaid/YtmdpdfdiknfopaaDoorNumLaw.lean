/- For every input the law FnNumbers returns true and leaves its argument as it was; the listed variables of the library hold what the program's text lays (the card ties them). -/
import Derived.Test.YtmdpdfdiknfopaaDoorRows
import Derived.WalkKit
import Derived.ProofKit
import Derived.OpenShut
import Derived.ShutString
import Derived.ChangeOld
import Derived.Below
import Derived.Test.YtmdpdfdiknfopaaDoorCards
import Derived.Test.YtmdpdfdiknfopaaDoorTie
import Derived.LaidMore
import Derived.Stop.Joined
import Derived.SevenTiedAt
import Derived.MakeChecks
import Derived.Test.YtmdpdfdiknfopaaDoorPuB
import Derived.Test.YtmdpdfdiknfopaaDoorCur
import Derived.WalkSmall
namespace Go.Proofs.YtmdpdfdiknfopaaDoor.fnNumbers
open Go.ChangeShapes Go.WideShapes Go.ChangeAt Go.RowKit
open Go.ChangeMaps (open_string shut_string)
set_option linter.unusedVariables false

theorem own : ownKnob Tryd.prog.godebug = none := by kernel_rfl
theorem laidOut : laidOutB Tryd.prog = true := by kernel_rfl

/-- WHAT THE WALK IS TOLD OF A SLICE OF INTEGERS THAT CAME IN: it is nil; or it leads to a row of 'cap' cells, the numbers 'zs' (the first 'len' are its elements, the rest its spare room), each fitting its kind. -/
def IsRow (k : IntKind) (w : World) (a : Option Addr) (len cap : Nat) (zs : List Int) : Prop :=
  (a = none ∧ len = 0 ∧ cap = 0 ∧ zs = []) ∨
  ∃ x, a = some x ∧ len ≤ cap ∧ cap ≤ maxLen ∧ zs.length = cap ∧ (∀ i, i < zs.length → w.cell? (x.add i) = some (.int k (zs.getD i 0))) ∧ ∀ n ∈ zs, (Lit.int k n).wf = true

open Go.WideMaps Go.WideElems
open Go.Proofs.YtmdpdfdiknfopaaDoor.pu Go.Proofs.YtmdpdfdiknfopaaDoor.lay Go.Proofs.YtmdpdfdiknfopaaDoor.cur
theorem tabBelow_mono {P : Program} {B B1 : Nat} {w : World} {n : String} {k : IntKind} {zs : List Int} (h : Lib.TabBelow P B w n k zs) (hB : B ≤ B1) : Lib.TabBelow P B1 w n k zs := fun w1 hb => h w1 (hb.mono hB)
theorem var_on {P : Program} {w w1 : World} {n : String} {cs : Array Value} (hb : Below w.heap.size w w1) (hv : w.var? P n = some cs) : w1.var? P n = some cs := by
  cases hg : P.globalNamed n with
  | none => simp [World.var?, hg] at hv
  | some g =>
    refine var?_below hb hg ?_ hv
    unfold World.var? at hv
    simp only [hg, Option.bind_some] at hv
    rcases Nat.lt_or_ge g w.heap.size with h | h
    · exact h
    · rw [Array.getElem?_eq_none h] at hv; cases hv

def One (w : World) (e : Ending) (w' : World) : Prop := ∃ x : Int, e = .returned (.int .i64 x) ∧ (Lit.int .i64 x).wf = true ∧ Below w.heap.size w w'
theorem draw_any (a : Option Addr) (len cap : Nat) (w : World) (hlm : (len : Int) ≤ 1048576) (hb : ∀ i : Nat, i < len → ∃ (b off : Nat) (v : Int), a = some ⟨b, off, none⟩ ∧ w.cell? ⟨b, off + i, none⟩ = some (.int .u8 v)) :
    Calls Tryd.prog 13 #[.slice a len cap] w (One w) := by
  have HB := Lib.hid hb
  clear hb
  go_enter Tryd.func13, Tryd.ntmps13
  go_wp2_with (go_at_call 21; refine (new_any a len cap _ hlm HB.out).mono ?_; rintro e w1 ⟨rfl, hc1, hb1⟩; refine Hid.out ?_)
  have hg0 := grownBy_refl w1 (some w.heap.size)
  have fin : Hid (∀ w', w1.grownBy w' (some w.heap.size) → Below w.heap.size w w') := fun w' g => hb1.grown g hb1.size (fun k hk => by cases hk; exact Nat.le_refl _)
  refine Lib.hid ?_
  go_wp2_with (first
    | (go_at_call 22; refine (once_from w1 _ a len cap _ (by omega) _ (by assumption) (by assumption)).mono ?_; rintro e w2 ⟨x, rfl, hc2, hg2⟩)
    | (go_at_call 24; refine (below_from w1 _ a len cap _ (by omega) _ (by assumption) (by assumption)).mono ?_; rintro e w2 ⟨x, rfl, hx0, hx1, hc2, hg2⟩)
    | (go_at_call 28; refine (number_from w1 _ a len cap _ (by assumption) (by assumption)).mono ?_; rintro e w2 ⟨x, rfl, hxw, hc2, hg2⟩))
  · go_ret
    exact ⟨_, rfl, by go_wf2, fin.out _ (by assumption)⟩
  · go_ret
    exact ⟨_, rfl, hxw, fin.out _ (by assumption)⟩

theorem walk (a0 : Option Addr) (len0 cap0 : Nat) (z0 : List Int) (w : World) (w0 : IsRow .u8 w a0 len0 cap0 z0) (hL : laidMet Tryd.prog Rows.fnNumbersRow.laid w) :
    Calls Tryd.prog 4 #[.slice a0 len0 cap0] w fun e w' => e = .returned (.bool true) ∧ Below w.heap.size w w' := by
  have HT := Lib.hid (Lib.tabBelow_of_tabIs (tab_of hL))
  obtain ⟨⟨x0, hv0⟩, ⟨x1, hv1⟩⟩ := errs_of hL
  have HV0 := Lib.hid hv0
  have HV1 := Lib.hid hv1
  have HB : Hid (∀ i : Nat, i < len0 → ∃ (b off : Nat) (v : Int), a0 = some ⟨b, off, none⟩ ∧ w.cell? ⟨b, off + i, none⟩ = some (.int .u8 v)) := by
    intro i hi
    rcases w0 with ⟨_, h0, _⟩ | ⟨x, rfl, hl, _, hz, hcell, _⟩
    · omega
    · obtain ⟨b, off, rfl, hc⟩ := ints_at hcell (by omega)
      exact ⟨b, off, _, rfl, hc i (by omega)⟩
  clear w0 hL hv0 hv1
  by_cases hbig : (1048576 : Int) < len0
  · go_enter Tryd.func4, Tryd.ntmps4
    go_wp2_with (go_at_call 8; refine (big_yes _ _ _ _ hbig).mono ?_; rintro e w1 ⟨rfl, rfl⟩)
    go_ret
    exact ⟨rfl, Below.refl _ _⟩
  · have hsm : (len0 : Int) ≤ 1048576 := by omega
    clear hbig
    go_enter Tryd.func4, Tryd.ntmps4
    go_wp2_with (first
      | (go_at_call 8; refine (big_no _ _ _ _ hsm).mono ?_; rintro e w1 ⟨rfl, rfl⟩)
      | (go_at_call 13; refine (draw_any _ _ _ _ hsm HB.out).mono ?_; rintro e w1 ⟨n, rfl, hwf, hb1⟩; refine Hid.out ?_))
    have HN := Lib.hid (bounds_i64 hwf)
    clear hwf
    have hne : (Lib.itoa n == []) = false := by simpa using itoa_ne n
    rcases (show (n < 0 ∨ 1000000000 < n) ∨ (0 ≤ n ∧ n ≤ 1000000000) by omega) with h | ⟨h0, h1⟩
    · rcases (show n < 0 ∨ (0 ≤ n ∧ 1000000000 < n) by omega) with h' | ⟨h', h''⟩
      all_goals
        have HP := Lib.hid (itoa_out h)
        clear h
        refine Lib.hid ?_
        go_wp2_with (first
          | (go_at_call 11; refine (impl_fmt _ HN.out.1 HN.out.2 _ (HT.out.on hb1).here).mono ?_; rintro e w2 ⟨rfl, hb2⟩; have hb3 := hb1.trans (hb2.mono hb1.size))
          | (go_at_call 14; refine (impl_pu _ (itoa_size _ HN.out.1 HN.out.2) _ (tabBelow_mono (HT.out.on hb3) hb3.size) (var_on hb3 HV0.out) (var_on hb3 HV1.out)).mono ?_; rintro e w4 ⟨v, b, rfl, hp, hb4⟩; obtain ⟨rfl, rfl⟩ := hp.unique HP.out))
        go_ret
        exact ⟨rfl, hb3.trans (hb4.mono hb3.size)⟩
    · have HP := Lib.hid (itoa_in h0 h1)
      refine Lib.hid ?_
      go_wp2_with (first
        | (go_at_call 11; refine (impl_fmt _ HN.out.1 HN.out.2 _ (HT.out.on hb1).here).mono ?_; rintro e w2 ⟨rfl, hb2⟩; have hb3 := hb1.trans (hb2.mono hb1.size))
        | (go_at_call 14; refine (impl_pu _ (itoa_size _ HN.out.1 HN.out.2) _ (tabBelow_mono (HT.out.on hb3) hb3.size) (var_on hb3 HV0.out) (var_on hb3 HV1.out)).mono ?_; rintro e w4 ⟨v, b, rfl, hp, hb4⟩; obtain ⟨rfl, rfl⟩ := hp.unique HP.out))
      go_ret
      exact ⟨rfl, hb3.trans (hb4.mono hb3.size)⟩

/-! ### THE ROW's STEP: WRITTEN OUT: LEAVE IT -/
/-- The door's own heap meets the condition: three closed facts. -/
theorem door_met (os : Os) (args : Array Value) : laidMetH Tryd.prog Rows.fnNumbersRow.laid ((World.doorLaid Tryd.prog 400 os).forCall (fun _ _ => 0) ⟨#[], args, []⟩).memory :=
  laidMetH_of_parts3 (fuel := 8) (laidMet_of_run' 8 (by kernel_rfl) (by kernel_rfl)) (by kernel_rfl) (by kernel_rfl)

set_option maxRecDepth 100000 in
theorem lifted (os : Os) (started : os.Started) (H : Type) (enc : TypeId × Value → H) :
    ReturnsInHanded {} Tryd.checked os 4 .any (fun w args => (Rows.fnNumbersSpec.pre enc Tryd.prog Tryd.f4 [] false w args ∧ laidMetH Tryd.prog Rows.fnNumbersRow.laid w) ∧ sizedMet enc Tryd.prog Tryd.f4 (OpenSpec.ofChange Rows.fnNumbersSpec) false w args) (Rows.fnNumbersSpec.post enc Tryd.prog Tryd.f4 false true false false) := by
  refine returnsInHanded_of_change_and (C := Tryd.checked) (X := fun w _ => laidMetH Tryd.prog Rows.fnNumbersRow.laid w) (fun _ _ _ hh h => h.of_heap hh) own started (by kernel_rfl) Tryd.func4
    (ChangeSpec.witness_shaped (enc := enc) (C := Tryd.checked) (os := os) (X := fun w _ => laidMetH Tryd.prog Rows.fnNumbersRow.laid w) false (World.doorLaid Tryd.prog 400 os) #[.slice none 0 0] 8 rfl (World.shaped_of_RefB (by kernel_rfl) (by kernel_rfl)) (by kernel_rfl) (by kernel_rfl) (by kernel_rfl) (door_met os _)) ?_
  intro W base args ds gs before hval0 hW hcnd _ hL _
  have hLm : laidMet Tryd.prog Rows.fnNumbersRow.laid W := by rw [MakeChecks.laidMetH_plain _ _ _ (by kernel_rfl)] at hL; exact hL
  have hval : ∀ (j : Nat) t v, Tryd.f4.params[j]? = some t → args[j]? = some v → Value.okWide Tryd.prog W .any base t v := hval0
  have hW' := hW
  obtain ⟨p, q, hA0, hV, rfl, hfz, hnd⟩ := hW
  have hA : DataW.TrodAll enc Tryd.prog W 0 (fun _ => true) true Tryd.f4.params.toList args.toList ds p := hA0
  rw [Tryd.params4] at hA hval
  obtain ⟨v0, vs0, d0, ds0, p0, q0, hargs, rfl, rfl, h0, r0⟩ := trodAll_cons hA
  obtain ⟨rfl, rfl, rfl⟩ := trodAll_nil r0
  obtain rfl : args = #[v0] := by cases args; simp_all
  obtain ⟨rfl, rfl⟩ := trodVars_none hV
  obtain ⟨a0, len0, cap0, rfl⟩ := okWide_slice Tryd.underlying22 (hval 0 22 v0 rfl rfl)
  have k0 := h0
  have lt0 : ∀ x ∈ p0, x.block < W.heap.size := by obtain ⟨m, hm⟩ := k0; exact DataW.trod_lt m _ _ _ hm
  obtain ⟨z0, w0⟩ : ∃ zs, IsRow .u8 W a0 len0 cap0 zs := by
    obtain ⟨fuel, hf⟩ := h0
    rcases open_ints Tryd.underlying22 Tryd.underlying5 (by kernel_rfl) hf with ⟨hcs, _⟩ | ⟨x, l, c, zs, hcs, _, hl, hm, hz, _, hcell, hwz⟩
    · simp [Value.cells] at hcs
      obtain ⟨rfl, rfl, rfl⟩ := hcs
      exact ⟨[], .inl ⟨rfl, rfl, rfl, rfl⟩⟩
    · simp [Value.cells] at hcs
      obtain ⟨rfl, rfl, rfl⟩ := hcs
      exact ⟨zs, .inr ⟨_, rfl, hl, hm, by simpa using hz, hcell, hwz⟩⟩
  clear hA0 hval0
  refine (walk a0 len0 cap0 z0 W w0 hLm).mono fun e W' ⟨he, bel⟩ => ?_
  subst he
  exact ⟨_, rfl, _, _, _, [], _, [], hW', trodAll_mk1 (shut_bool Tryd.underlying4 _), (trodAll_cons_mk (Below.trod laidOut (by kernel_rfl) (of_decide_eq_true (by kernel_rfl)) k0 bel lt0) trodAll_mk0), rfl, bel.frame _, fun h => by cases h⟩

theorem over : Rows.fnNumbersRow.holds Tryd.pinned (OpenSpec.ofChange Rows.fnNumbersSpec) :=
  OpenClaim.holds_of_wide 4 Tryd.f4 rfl rfl rfl rfl rfl rfl rfl ⟨rfl, rfl, rfl, rfl, rfl⟩ rfl rfl rfl rfl rfl (by kernel_rfl) Tryd.func4 (by kernel_rfl)
    (of_decide_eq_true (by kernel_rfl)) (by unfold Func.isWrapper; first | (rw [if_pos (by decide +kernel)]; kernel_rfl) | (rw [if_neg (by decide +kernel)]; exact ⟨rfl, rfl⟩))
    (fun os started H enc _ => lifted os started H enc)

/-- ████ THE STATEMENT: THE TIED CARD ████ -/
theorem proved : Rows.FnNumbersCardSaid :=
  Claim7.holds_tied_plain_at .later [] [.data, .data, .data, .sentinel, .sentinel] true (true, "c8d178f6836823b44c2057338241096b88f0febc60657a764f9d97df2a784de9") true
    over (fun _ h => by cases h) (by kernel_rfl) (fun _ h => by cases h) fnNumbers_row_tie rfl ⟨rfl, rfl⟩ (by kernel_rfl) rfl
    (fun f fn hf hfn => by
      obtain rfl : f = 4 := Option.some.inj ((show Tryd.prog.funcNamed "loop.example/g00983/laws.FnNumbers" = some 4 by kernel_rfl).symm.trans hf) |>.symm
      obtain rfl : fn = Tryd.f4 := (Option.some.inj (Tryd.func4.symm.trans hfn)).symm
      exact ⟨by kernel_rfl, fun j t ht => by
        rw [Tryd.params4] at ht
        have hm : t ∈ [22] := by simpa using Array.mem_of_getElem? ht
        have hall : ([22].all fun u => !Tryd.prog.wantsStandIn u) = true := by kernel_rfl
        exact (show Tryd.prog.wantsStandIn t = false by simpa using List.all_eq_true.1 hall t hm)⟩)
    (by kernel_rfl)
#print axioms proved
end Go.Proofs.YtmdpdfdiknfopaaDoor.fnNumbers
