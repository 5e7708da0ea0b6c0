/- For every input the law FnProgramTexts returns true and leaves its argument and the parser's own error as they were; the listed variables of the library hold what the program's text lays (the card ties them). -/
import Derived.Test.YtpipnhceajdfkaaGreatDoorRows
import Derived.WalkKit
import Derived.ProofKit
import Derived.OpenShut
import Derived.ShutString
import Derived.ChangeOld
import Derived.Below
import Derived.Test.YtpipnhceajdfkaaGreatDoorCards
import Derived.Test.YtpipnhceajdfkaaGreatDoorTie
import Derived.LaidMore
import Derived.Stop.Joined
import Derived.SevenTiedAt
import Derived.MakeChecks
import Derived.ChangeVars
import Derived.Lay
import Derived.RowKitTokens
import Derived.Test.YtpipnhceajdfkaaGreatDoorGLpgt35
import Derived.Test.YtpipnhceajdfkaaGreatDoorGLpgt41
import Derived.Test.YtpipnhceajdfkaaGreatDoorGLpgt48
namespace Go.Proofs.YtpipnhceajdfkaaGreatDoor.fnProgramTexts
open Go.ChangeShapes Go.WideShapes Go.ChangeAt Go.RowKit
open Go.ChangeMaps (open_string shut_string)
set_option linter.unusedVariables false

theorem own : ownKnob Tryz.prog.godebug = none := by kernel_rfl
theorem laidOut : laidOutB Tryz.prog = true := by kernel_rfl

/-- WHAT THE WALK IS TOLD OF A SLICE OF INTEGERS THAT CAME IN: it is nil; or it leads to a row of 'cap' cells, the numbers 'zs' (the first 'len' are its elements, the rest its spare room), each fitting its kind. -/
def IsRow (k : IntKind) (w : World) (a : Option Addr) (len cap : Nat) (zs : List Int) : Prop :=
  (a = none ∧ len = 0 ∧ cap = 0 ∧ zs = []) ∨
  ∃ x, a = some x ∧ len ≤ cap ∧ cap ≤ maxLen ∧ zs.length = cap ∧ (∀ i, i < zs.length → w.cell? (x.add i) = some (.int k (zs.getD i 0))) ∧ ∀ n ∈ zs, (Lit.int k n).wf = true

open Go.WideMaps Go.WideElems
open Go.Proofs.YtpipnhceajdfkaaGreatDoor.row Go.Proofs.YtpipnhceajdfkaaGreatDoor.val Go.Proofs.YtpipnhceajdfkaaGreatDoor.expr Go.Proofs.YtpipnhceajdfkaaGreatDoor.stm Go.Proofs.YtpipnhceajdfkaaGreatDoor.tex Go.Proofs.YtpipnhceajdfkaaGreatDoor.lay Go.Proofs.YtpipnhceajdfkaaGreatDoor.cur Go.Proofs.YtpipnhceajdfkaaGreatDoor.spl Go.Proofs.YtpipnhceajdfkaaGreatDoor.blk Go.Proofs.YtpipnhceajdfkaaGreatDoor.prg
def Parsed (P : List Tk) (w : World) (e : Ending) (w' : World) : Prop :=
  ∃ (q : Option Addr) (c : Nat), e = .returned (.tuple #[.agg #[.slice q P.length c], .int .i64 0]) ∧ P.length ≤ c ∧ Hid (TkRow w' q P.length P) ∧ Below w.heap.size w w'
theorem parse_is {P : List Tk} (hP : IsPrg P) (X : List UInt8) (hX : X = progT P) (ea : Addr) (w : World) (hE : Env ea w) :
    Calls Tryz.prog 8 #[.string ⟨X.toArray⟩] w (Parsed P w) := by
  refine (impl_parseprogram ea ⟨X.toArray⟩ w hE).mono ?_
  rintro e w' ⟨q, n, c, Q, k, rfl, hp, hnc, _, ⟨base, xs, bv, _, hF⟩, hb⟩
  have h1 := hp.out
  rw [show (⟨X.toArray⟩ : ByteArray).data.toList = progT P by rw [hX]] at h1
  obtain ⟨rfl, rfl⟩ := h1.unique (parse_prog hP)
  have hn := hF.1
  subst hn
  exact ⟨q, c, rfl, hnc, hF.row, hb⟩
theorem sizes_drawn {P : List Tk} (hl : P.length ≤ 3) (h : ∀ t ∈ P, TkOk t) : Sizes P := ⟨by omega, fun t ht => by have := (h t ht).2.1; omega⟩
theorem prg_drawn {P : List Tk} (h1 : 1 ≤ P.length) (hl : P.length ≤ 3) (h : ∀ t ∈ P, TkOk t) : IsPrg P := ⟨h1, by omega, fun t ht => ⟨(h t ht).1, (h t ht).2.2⟩⟩
set_option maxHeartbeats 8000000 in
set_option maxRecDepth 100000 in
theorem walk (a0 : Option Addr) (len0 cap0 : Nat) (z0 : List Int) (w : World) (w0 : IsRow .u8 w a0 len0 cap0 z0) (hL : laidMet Tryz.prog Rows.fnProgramTextsRow.laid w) (hS : w.ShapedOpen Tryz.prog) :
    Calls Tryz.prog 3 #[.slice a0 len0 cap0] w fun e w' => e = .returned (.bool true) ∧ Below w.heap.size w w' := by
  obtain ⟨ea, hEnv⟩ := env_of hL hS
  have HE := Lib.hid hEnv
  clear hL hS hEnv
  have HB : Hid (∀ i : Nat, i < len0 → ∃ (b off : Nat) (v : Int), a0 = some ⟨b, off, none⟩ ∧ w.cell? ⟨b, off + i, none⟩ = some (.int .u8 v)) := by
    intro i hi
    rcases w0 with ⟨_, h0, _⟩ | ⟨x, rfl, hl, _, hz, hcell, _⟩
    · omega
    · obtain ⟨b, off, rfl, hc⟩ := ints_at hcell (by omega)
      exact ⟨b, off, _, rfl, hc i (by omega)⟩
  clear w0
  by_cases hbig : (1048576 : Int) < len0
  · go_enter Tryz.func3, Tryz.ntmps3
    go_wp2_with (go_at_call 5; refine (big_yes _ _ _ _ hbig).mono ?_; rintro e w1 ⟨rfl, rfl⟩)
    go_ret
    exact ⟨rfl, Below.refl _ _⟩
  · have hsm : (len0 : Int) ≤ 1048576 := by omega
    clear hbig
    go_enter Tryz.func3, Tryz.ntmps3
    go_wp2_with (first
      | (go_at_call 5; refine (big_no _ _ _ _ hsm).mono ?_; rintro e w1 ⟨rfl, rfl⟩)
      | (go_at_call 6; refine (drawprogram_any _ _ _ _ hsm HB.out).mono ?_; rintro e w1 ⟨ad, n, c, P, rfl, hn1, hn3, hnc, HOK, HR, hb1⟩; refine Hid.out ?_))
    have HA1 := Lib.hid (And.intro (Box.new w1 #[.slice none 0 0] 26) (below_new w1 (.cells #[.slice none 0 0] 26)))
    have HB1 := Lib.hid (And.intro hb1 HR.out.row)
    have hPn := HR.out.row.1
    subst hPn
    have HIP := Lib.hid (prg_drawn hn1 hn3 HOK.out)
    have HSZ := Lib.hid (sizes_drawn hn3 HOK.out)
    obtain ⟨X, hX⟩ : ∃ X, X = progT P := ⟨_, rfl⟩
    have HX := Lib.hid hX
    have HPX := Lib.hid (show ProgIs P X from .inl ⟨HIP.out, hX⟩)
    have hXe : (X == []) = false := by rw [beq_eq_false_iff_ne, hX]; exact progT_ne HIP.out
    have hXn : X.isEmpty = false := by rw [← Bool.not_eq_true, List.isEmpty_iff, hX]; exact progT_ne HIP.out
    clear hb1 HR hX
    refine Lib.hid ?_
    go_wp2_with ((refine wpList_store_box rfl 26 _ _ rfl w1.heap.size _ _ HA1.out.1 #[.slice ad P.length c] rfl rfl rfl (by kernel_rfl) (by simp [Value.oneCell']) ?_); intro w2 hx2 hg2; refine Hid.out ?_)
    have hb2 : Below w1.heap.size w1 w2 := HA1.out.2.grown hg2 HA1.out.2.size (fun j hj => by cases hj; exact Nat.le_refl _)
    have H2 := Lib.hid (And.intro hx2 (And.intro (HB1.out.2.below hb2) (below_then HB1.out.1 hb2)))
    have HT2 := Lib.hid (show TabB w2 from (HE.out.on H2.out.2.2).1)
    have c2 : w2.cell? ⟨w1.heap.size, 0, none⟩ = some (.slice ad P.length c) := hx2.cell 0
    clear hx2 hg2 hb2 HA1 HB1
    refine Lib.hid ?_
    go_wp2_with (go_at_call 7; (with_reducible refine (impl_programtext ad P.length c P HSZ.out hnc _ H2.out.2.1 X HPX.out HT2.out).mono ?_); rintro e w3 ⟨rfl, hb3⟩; refine Hid.out ?_)
    have H3 := Lib.hid (And.intro (H2.out.1.below hb3) (And.intro (H2.out.2.1.below hb3) (below_then H2.out.2.2 hb3)))
    have HE3 := Lib.hid (HE.out.on H3.out.2.2)
    clear hb3 c2
    refine Lib.hid ?_
    go_wp2_with (go_at_call 8; (with_reducible refine (parse_is HIP.out X HX.out ea _ HE3.out).mono ?_); rintro e w4 ⟨q, cq, rfl, hqc, HRQ, hb4⟩; refine Hid.out ?_)
    have H4 := Lib.hid (And.intro (H3.out.1.below hb4) (And.intro (H3.out.2.1.below hb4) (below_then H3.out.2.2 hb4)))
    have HA4 := Lib.hid (And.intro (Box.new w4 #[.slice none 0 0] 26) (below_new w4 (.cells #[.slice none 0 0] 26)))
    clear hb4
    refine Lib.hid ?_
    go_wp2_with ((refine wpList_store_box rfl 26 _ _ rfl w4.heap.size _ _ HA4.out.1 #[.slice q P.length cq] rfl rfl rfl (by kernel_rfl) (by simp [Value.oneCell']) ?_); intro w5 hx5 hg5; refine Hid.out ?_)
    have hb5 : Below w4.heap.size w4 w5 := HA4.out.2.grown hg5 HA4.out.2.size (fun j hj => by cases hj; exact Nat.le_refl _)
    have H5 := Lib.hid (And.intro hx5 (And.intro (H4.out.1.below hb5) (And.intro (HRQ.out.below hb5) (And.intro (H4.out.2.1.below hb5) (below_then H4.out.2.2 hb5)))))
    have HT5 := Lib.hid (show TabB w5 from (HE.out.on H5.out.2.2.2.2).1)
    have c5 : w5.cell? ⟨w4.heap.size, 0, none⟩ = some (.slice q P.length cq) := hx5.cell 0
    clear hx5 hg5 hb5
    refine Lib.hid ?_
    go_wp2_with (go_at_call 7; (with_reducible refine (impl_programtext q P.length cq P HSZ.out hqc _ H5.out.2.2.1 X HPX.out HT5.out).mono ?_); rintro e w6 ⟨rfl, hb6⟩; refine Hid.out ?_)
    have H6 := Lib.hid (And.intro (H5.out.2.2.2.1.below hb6) (below_then H5.out.2.2.2.2 hb6))
    have d5 : w6.cell? ⟨w4.heap.size, 0, none⟩ = some (.slice q P.length cq) := (H5.out.1.below hb6).cell 0
    have d2 : w6.cell? ⟨w1.heap.size, 0, none⟩ = some (.slice ad P.length c) := (H5.out.2.1.below hb6).cell 0
    clear hb6 c5
    refine Lib.hid ?_
    go_wp2_with (go_at_call 9; (with_reducible refine (impl_programok ad P.length c P HSZ.out hnc _ H6.out.1 true ⟨fun _ => HIP.out, fun _ => rfl⟩).mono ?_); rintro e w7 ⟨rfl, hb7⟩)
    go_ret
    exact ⟨rfl, below_then H6.out.2 hb7⟩

/-! ### THE ROW's STEP: WRITTEN OUT: LEAVE IT -/
/-- The door's own heap meets the condition: three closed facts. -/
theorem door_met (os : Os) (args : Array Value) : laidMetH Tryz.prog Rows.fnProgramTextsRow.laid ((World.laidAll Tryz.prog os Rows.fnProgramTextsRow.laid).forCall (fun _ _ => 0) ⟨#[], args, []⟩).memory := by
  rw [MakeChecks.laidMetH_plain _ _ _ (by kernel_rfl)]; exact laidMet_laidAll _ (by kernel_rfl) (by kernel_rfl)

set_option maxRecDepth 100000 in
theorem lifted (os : Os) (started : os.Started) (H : Type) (enc : TypeId × Value → H) :
    ReturnsInHanded {} Tryz.checked os 3 .any (fun w args => (Rows.fnProgramTextsSpec.pre enc Tryz.prog Tryz.f3 [] false w args ∧ laidMetH Tryz.prog Rows.fnProgramTextsRow.laid w) ∧ sizedMet enc Tryz.prog Tryz.f3 (OpenSpec.ofChange Rows.fnProgramTextsSpec) false w args) (Rows.fnProgramTextsSpec.post enc Tryz.prog Tryz.f3 false true false false) := by
  refine Go.Proofs.YtpipnhceajdfkaaGreatDoor.prg.handed_shaped (C := Tryz.checked) (X := fun w _ => laidMetH Tryz.prog Rows.fnProgramTextsRow.laid w) (fun _ _ _ hh h => h.of_heap hh) own started (by kernel_rfl) Tryz.func3
    (ChangeSpec.witness_shaped (enc := enc) (C := Tryz.checked) (os := os) (X := fun w _ => laidMetH Tryz.prog Rows.fnProgramTextsRow.laid w) false (World.laidAll Tryz.prog os Rows.fnProgramTextsRow.laid) #[.slice none 0 0] 8 (World.laidAll_os _ _ _) (World.shaped_of_ZipB (by kernel_rfl) (by kernel_rfl)) (by kernel_rfl) (by kernel_rfl) (by kernel_rfl) (door_met os _)) ?_
  intro W base args ds gs before hval0 hW hL hS
  have hLm : laidMet Tryz.prog Rows.fnProgramTextsRow.laid W := by rw [MakeChecks.laidMetH_plain _ _ _ (by kernel_rfl)] at hL; exact hL
  have hval : ∀ (j : Nat) t v, Tryz.f3.params[j]? = some t → args[j]? = some v → Value.okWide Tryz.prog W .any base t v := hval0
  have hW' := hW
  obtain ⟨p, q, hA0, hV, rfl, hfz, hnd⟩ := hW
  have hA : DataW.TrodAll enc Tryz.prog W 0 (fun _ => true) true Tryz.f3.params.toList args.toList ds p := hA0
  rw [Tryz.params3] at hA hval
  obtain ⟨v0, vs0, d0, ds0, p0, q0, hargs, rfl, rfl, h0, r0⟩ := trodAll_cons hA
  obtain ⟨rfl, rfl, rfl⟩ := trodAll_nil r0
  obtain rfl : args = #[v0] := by cases args; simp_all
  obtain ⟨gv, tv, csv, fuelv, dv, pv, rfl, hgv, htv, hvar, hdv, rfl⟩ := trodVars_one hV
  obtain rfl := Option.some.inj (Go.Proofs.YtpipnhceajdfkaaGreatDoor.prg.gEI.symm.trans hgv)
  obtain rfl := Option.some.inj (Go.Proofs.YtpipnhceajdfkaaGreatDoor.prg.gEIType.symm.trans htv)
  obtain ⟨old, hcsv, hov, hxv⟩ := held_of_trod_list Tryz.underlying51 hdv
  simp only [Prod.mk.injEq] at hxv
  obtain ⟨rfl, rfl⟩ := hxv
  have hcs' : csv = #[old] := by
    cases csv
    simp_all
  subst hcs'
  obtain ⟨a0, len0, cap0, rfl⟩ := okWide_slice Tryz.underlying22 (hval 0 22 v0 rfl rfl)
  have k0 := h0
  have lt0 : ∀ x ∈ p0, x.block < W.heap.size := by obtain ⟨m, hm⟩ := k0; exact DataW.trod_lt m _ _ _ hm
  obtain ⟨z0, w0⟩ : ∃ zs, IsRow .u8 W a0 len0 cap0 zs := by
    obtain ⟨fuel, hf⟩ := h0
    rcases open_ints Tryz.underlying22 Tryz.underlying5 (by kernel_rfl) hf with ⟨hcs, _⟩ | ⟨x, l, c, zs, hcs, _, hl, hm, hz, _, hcell, hwz⟩
    · simp [Value.cells] at hcs
      obtain ⟨rfl, rfl, rfl⟩ := hcs
      exact ⟨[], .inl ⟨rfl, rfl, rfl, rfl⟩⟩
    · simp [Value.cells] at hcs
      obtain ⟨rfl, rfl, rfl⟩ := hcs
      exact ⟨zs, .inr ⟨_, rfl, hl, hm, by simpa using hz, hcell, hwz⟩⟩
  clear hA0 hval0
  refine (walk a0 len0 cap0 z0 W w0 hLm hS).mono fun e W' ⟨he, bel⟩ => ?_
  subst he
  exact ⟨_, rfl, _, _, _, [], _, _, hW', trodAll_mk1 (shut_bool Tryz.underlying4 _), (trodAll_cons_mk (Below.trod laidOut (by kernel_rfl) (of_decide_eq_true (by kernel_rfl)) k0 bel lt0) trodAll_mk0), (by
    have h9 := trodVars_mk1 (enc := enc) (spare := fun b => decide (b < W.heap.size)) (fuel := 1) (d := tok enc old) (p := []) hgv htv (Go.Proofs.YtpipnhceajdfkaaGreatDoor.tex.var_below bel hvar) (trod_held Tryz.underlying51 hov 0)
    exact h9), bel.frame _, fun h => by cases h⟩

theorem over : Rows.fnProgramTextsRow.holds Tryz.pinned (OpenSpec.ofChange Rows.fnProgramTextsSpec) :=
  OpenClaim.holds_of_wide 3 Tryz.f3 rfl rfl rfl rfl rfl rfl rfl ⟨rfl, rfl, rfl, rfl, rfl⟩ rfl rfl rfl rfl rfl (by kernel_rfl) Tryz.func3 (by kernel_rfl)
    (of_decide_eq_true (by kernel_rfl)) (by unfold Func.isWrapper; first | (rw [if_pos (by decide +kernel)]; kernel_rfl) | (rw [if_neg (by decide +kernel)]; exact ⟨rfl, rfl⟩))
    (fun os started H enc _ => lifted os started H enc)

/-- ████ THE STATEMENT: THE TIED CARD ████ -/
theorem proved : Rows.FnProgramTextsCardSaid :=
  Claim7.holds_tied_plain_at .later [] [.data, .data, .data, .data, .sentinel, .sentinel, .sentinel, .pinned] true (true, "e8508c1d44b02e71a4c878c8f27c63275663aa1a06204b88e04d22df4ee5b4bf") true
    over (fun _ h => by cases h) (by kernel_rfl) (fun _ h => by cases h) fnProgramTexts_row_tie rfl ⟨rfl, rfl⟩ (by kernel_rfl) rfl
    (fun f fn hf hfn => by
      obtain rfl : f = 3 := Option.some.inj ((show Tryz.prog.funcNamed "loop.example/g00983/laws.FnProgramTexts" = some 3 by kernel_rfl).symm.trans hf) |>.symm
      obtain rfl : fn = Tryz.f3 := (Option.some.inj (Tryz.func3.symm.trans hfn)).symm
      exact ⟨by kernel_rfl, fun j t ht => by
        rw [Tryz.params3] at ht
        have hm : t ∈ [22] := by simpa using Array.mem_of_getElem? ht
        have hall : ([22].all fun u => !Tryz.prog.wantsStandIn u) = true := by kernel_rfl
        exact (show Tryz.prog.wantsStandIn t = false by simpa using List.all_eq_true.1 hall t hm)⟩)
    (by kernel_rfl)
#print axioms proved
end Go.Proofs.YtpipnhceajdfkaaGreatDoor.fnProgramTexts
