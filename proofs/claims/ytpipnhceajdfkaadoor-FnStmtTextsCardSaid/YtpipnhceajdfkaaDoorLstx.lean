/- For every input the law FnStmtTexts returns true and leaves its argument as it was; the listed variables of the library hold what the program's text lays (the card ties them). -/
import Derived.Test.YtpipnhceajdfkaaDoorRows
import Derived.WalkKit
import Derived.ProofKit
import Derived.OpenShut
import Derived.ShutString
import Derived.ChangeOld
import Derived.Below
import Derived.Test.YtpipnhceajdfkaaDoorCards
import Derived.Test.YtpipnhceajdfkaaDoorTie
import Derived.LaidMore
import Derived.Stop.Joined
import Derived.SevenTiedAt
import Derived.MakeChecks
import Derived.Test.YtpipnhceajdfkaaDoorTexS
import Derived.Test.YtpipnhceajdfkaaDoorDrawF
namespace Go.Proofs.YtpipnhceajdfkaaDoor.fnStmtTexts
open Go.ChangeShapes Go.WideShapes Go.ChangeAt Go.RowKit
open Go.ChangeMaps (open_string shut_string)
set_option linter.unusedVariables false

theorem own : ownKnob Tryd.prog.godebug = none := by kernel_rfl
theorem laidOut : laidOutB Tryd.prog = true := by kernel_rfl

/-- WHAT THE WALK IS TOLD OF A SLICE OF INTEGERS THAT CAME IN: it is nil; or it leads to a row of 'cap' cells, the numbers 'zs' (the first 'len' are its elements, the rest its spare room), each fitting its kind. -/
def IsRow (k : IntKind) (w : World) (a : Option Addr) (len cap : Nat) (zs : List Int) : Prop :=
  (a = none ∧ len = 0 ∧ cap = 0 ∧ zs = []) ∨
  ∃ x, a = some x ∧ len ≤ cap ∧ cap ≤ maxLen ∧ zs.length = cap ∧ (∀ i, i < zs.length → w.cell? (x.add i) = some (.int k (zs.getD i 0))) ∧ ∀ n ∈ zs, (Lit.int k n).wf = true

open Go.WideMaps Go.WideElems
open Go.Proofs.YtpipnhceajdfkaaDoor.row Go.Proofs.YtpipnhceajdfkaaDoor.val Go.Proofs.YtpipnhceajdfkaaDoor.expr Go.Proofs.YtpipnhceajdfkaaDoor.stm Go.Proofs.YtpipnhceajdfkaaDoor.tex Go.Proofs.YtpipnhceajdfkaaDoor.lay Go.Proofs.YtpipnhceajdfkaaDoor.cur Go.Proofs.YtpipnhceajdfkaaDoor.spl
def Told (w : World) (s : Go.Proofs.YtpipnhceajdfkaaDoor.stm.St) (e : Ending) (w' : World) : Prop := e = .returned (.tuple #[stV s, .bool true]) ∧ Below w.heap.size w w'
theorem parse_text (s : Go.Proofs.YtpipnhceajdfkaaDoor.stm.St) (hs : stOk s = true) (X : List UInt8) (hX : textR s = X) (w : World) (hT : Lib.TabBelow Tryd.prog w.heap.size w "internal/strconv.uint64pow10" .u64 Lib.pow10Tab) (hE : ErrsOk w.heap.size w) :
    Calls Tryd.prog 10 #[.string ⟨X.toArray⟩] w (Told w s) := by
  refine (impl_parse ⟨X.toArray⟩ w hT hE).mono ?_
  rintro e w' ⟨t, b, rfl, hp, hb⟩
  have hp' : IsParse (flds s) t b := by
    have h := hp.out
    have e1 : (⟨X.toArray⟩ : ByteArray).data.toList = text s := by rw [← textR_ok hs, hX]
    rw [e1, (text_ok hs).2] at h
    exact h
  obtain ⟨rfl, rfl⟩ := hp'.unique (.inl ⟨rfl, hs, rfl⟩)
  exact ⟨rfl, hb⟩
theorem textR_ne {s : Go.Proofs.YtpipnhceajdfkaaDoor.stm.St} (hs : stOk s = true) : textR s ≠ [] := by
  rw [textR_ok hs]
  exact join_ne (by simp [flds]) (flds_good s)
theorem format_is (s : Go.Proofs.YtpipnhceajdfkaaDoor.stm.St) (X : List UInt8) (hX : textR s = X) (w : World) (hT : Lib.TabBelow Tryd.prog w.heap.size w "internal/strconv.uint64pow10" .u64 Lib.pow10Tab) : Calls Tryd.prog 9 #[stV s] w (RetS w X) := by
  subst hX; exact impl_fmtstmt s w hT
set_option maxHeartbeats 4000000 in
set_option maxRecDepth 100000 in
theorem walk (a0 : Option Addr) (len0 cap0 : Nat) (z0 : List Int) (w : World) (w0 : IsRow .u8 w a0 len0 cap0 z0) (hL : laidMet Tryd.prog Rows.fnStmtTextsRow.laid w) :
    Calls Tryd.prog 3 #[.slice a0 len0 cap0] w fun e w' => e = .returned (.bool true) ∧ Below w.heap.size w w' := by
  have HT := Lib.hid (Lib.tabBelow_of_tabIs (tab_of hL))
  have HE := Lib.hid (errsOk_of (errs_of hL))
  clear hL
  have HB : Hid (∀ i : Nat, i < len0 → ∃ (b off : Nat) (v : Int), a0 = some ⟨b, off, none⟩ ∧ w.cell? ⟨b, off + i, none⟩ = some (.int .u8 v)) := by
    intro i hi
    rcases w0 with ⟨_, h0, _⟩ | ⟨x, rfl, hl, _, hz, hcell, _⟩
    · omega
    · obtain ⟨b, off, rfl, hc⟩ := ints_at hcell (by omega)
      exact ⟨b, off, _, rfl, hc i (by omega)⟩
  clear w0
  by_cases hbig : (1048576 : Int) < len0
  · go_enter Tryd.func3, Tryd.ntmps3
    go_wp2_with (go_at_call 7; refine (big_yes _ _ _ _ hbig).mono ?_; rintro e w1 ⟨rfl, rfl⟩)
    go_ret
    exact ⟨rfl, Below.refl _ _⟩
  · have hsm : (len0 : Int) ≤ 1048576 := by omega
    clear hbig
    go_enter Tryd.func3, Tryd.ntmps3
    go_wp2_with (first
      | (go_at_call 7; refine (big_no _ _ _ _ hsm).mono ?_; rintro e w1 ⟨rfl, rfl⟩)
      | (go_at_call 8; refine (drawstmt_any _ _ _ _ hsm HB.out).mono ?_; rintro e w1 ⟨s, rfl, HS, hb1⟩; refine Hid.out ?_))
    have H1 := Lib.hid (And.intro (Box.new w1 #[.int .i64 s.k, .int .i64 s.v, .int .i64 s.n, .int .i64 s.o, .int .i64 s.a, .int .i64 s.b] 27) (below_then hb1 (below_new w1 (.cells #[.int .i64 s.k, .int .i64 s.v, .int .i64 s.n, .int .i64 s.o, .int .i64 s.a, .int .i64 s.b] 27))))
    obtain ⟨X, hX⟩ : ∃ X, textR s = X := ⟨_, rfl⟩
    have HX := Lib.hid hX
    have hXe : (X == []) = false := by rw [beq_eq_false_iff_ne, ← hX]; exact textR_ne HS.out
    have hXn : X.isEmpty = false := by rw [← Bool.not_eq_true, List.isEmpty_iff, ← hX]; exact textR_ne HS.out
    clear hb1 hX
    refine Lib.hid ?_
    go_wp2_with (go_at_call 9; refine (format_is s X HX.out _ (fun w' hw' => (HT.out.on H1.out.2) w' (hw'.mono H1.out.2.size))).mono ?_; rintro e w2 ⟨rfl, hb2⟩; refine Hid.out ?_)
    have H2 := Lib.hid (And.intro (H1.out.1.below hb2) (below_then H1.out.2 hb2))
    clear hb2
    refine Lib.hid ?_
    go_wp2_with (go_at_call 10; refine (parse_text s HS.out X HX.out _ (fun w' hw' => (HT.out.on H2.out.2) w' (hw'.mono H2.out.2.size)) (fun w' hw' => (HE.out.on H2.out.2) w' (hw'.mono H2.out.2.size))).mono ?_; rintro e w3 ⟨rfl, hb3⟩; refine Hid.out ?_)
    have hx3 := H2.out.1.below hb3
    have H3 := Lib.hid (below_then H2.out.2 hb3)
    have hlt3 := hx3.lt
    have hx4 := hx3.alloc (.cells #[.int .i64 s.k, .int .i64 s.v, .int .i64 s.n, .int .i64 s.o, .int .i64 s.a, .int .i64 s.b] 27)
    have HX4 := Lib.hid hx4
    have hq : ∀ w, (Op.equalIn 10000 27 (stV s) (stV s)).run Tryd.prog w = .ok true w := fun w => by rw [run_eqSt]; simp [eqSt]
    have c0 := hx3.cell 0
    have c1 := hx3.cell 1
    have c2 := hx3.cell 2
    have c3 := hx3.cell 3
    have c4 := hx3.cell 4
    have c5 := hx3.cell 5
    clear hb3 hx3 hx4
    refine Lib.hid ?_
    go_wp2_with (first
      | (refine wpList_load_row rfl 27 _ rfl w1.heap.size rfl _ _ _ _ HX4.out Tryd.underlying27 rfl (by kernel_rfl) ?_)
      | (go_at_call 11; refine (impl_stmtok s true HS.out _).mono ?_; rintro e w5 ⟨rfl, hb5⟩))
    go_ret
    exact ⟨rfl, below_then (below_then H3.out (below_new w3 _)) hb5⟩

/-! ### THE ROW's STEP: WRITTEN OUT: LEAVE IT -/
/-- The door's own heap meets the condition: three closed facts. -/
theorem door_met (os : Os) (args : Array Value) : laidMetH Tryd.prog Rows.fnStmtTextsRow.laid ((World.doorLaid Tryd.prog 400 os).forCall (fun _ _ => 0) ⟨#[], args, []⟩).memory :=
  laidMetH_of_parts3 (fuel := 8) (laidMet_of_run' 8 (by kernel_rfl) (by kernel_rfl)) (by kernel_rfl) (by kernel_rfl)

set_option maxRecDepth 100000 in
theorem lifted (os : Os) (started : os.Started) (H : Type) (enc : TypeId × Value → H) :
    ReturnsInHanded {} Tryd.checked os 3 .any (fun w args => (Rows.fnStmtTextsSpec.pre enc Tryd.prog Tryd.f3 [] false w args ∧ laidMetH Tryd.prog Rows.fnStmtTextsRow.laid w) ∧ sizedMet enc Tryd.prog Tryd.f3 (OpenSpec.ofChange Rows.fnStmtTextsSpec) false w args) (Rows.fnStmtTextsSpec.post enc Tryd.prog Tryd.f3 false true false false) := by
  refine returnsInHanded_of_change_and (C := Tryd.checked) (X := fun w _ => laidMetH Tryd.prog Rows.fnStmtTextsRow.laid w) (fun _ _ _ hh h => h.of_heap hh) own started (by kernel_rfl) Tryd.func3
    (ChangeSpec.witness_shaped (enc := enc) (C := Tryd.checked) (os := os) (X := fun w _ => laidMetH Tryd.prog Rows.fnStmtTextsRow.laid w) false (World.doorLaid Tryd.prog 400 os) #[.slice none 0 0] 8 rfl (World.shaped_of_RefB (by kernel_rfl) (by kernel_rfl)) (by kernel_rfl) (by kernel_rfl) (by kernel_rfl) (door_met os _)) ?_
  intro W base args ds gs before hval0 hW hcnd _ hL _
  have hLm : laidMet Tryd.prog Rows.fnStmtTextsRow.laid W := by rw [MakeChecks.laidMetH_plain _ _ _ (by kernel_rfl)] at hL; exact hL
  have hval : ∀ (j : Nat) t v, Tryd.f3.params[j]? = some t → args[j]? = some v → Value.okWide Tryd.prog W .any base t v := hval0
  have hW' := hW
  obtain ⟨p, q, hA0, hV, rfl, hfz, hnd⟩ := hW
  have hA : DataW.TrodAll enc Tryd.prog W 0 (fun _ => true) true Tryd.f3.params.toList args.toList ds p := hA0
  rw [Tryd.params3] at hA hval
  obtain ⟨v0, vs0, d0, ds0, p0, q0, hargs, rfl, rfl, h0, r0⟩ := trodAll_cons hA
  obtain ⟨rfl, rfl, rfl⟩ := trodAll_nil r0
  obtain rfl : args = #[v0] := by cases args; simp_all
  obtain ⟨rfl, rfl⟩ := trodVars_none hV
  obtain ⟨a0, len0, cap0, rfl⟩ := okWide_slice Tryd.underlying22 (hval 0 22 v0 rfl rfl)
  have k0 := h0
  have lt0 : ∀ x ∈ p0, x.block < W.heap.size := by obtain ⟨m, hm⟩ := k0; exact DataW.trod_lt m _ _ _ hm
  obtain ⟨z0, w0⟩ : ∃ zs, IsRow .u8 W a0 len0 cap0 zs := by
    obtain ⟨fuel, hf⟩ := h0
    rcases open_ints Tryd.underlying22 Tryd.underlying5 (by kernel_rfl) hf with ⟨hcs, _⟩ | ⟨x, l, c, zs, hcs, _, hl, hm, hz, _, hcell, hwz⟩
    · simp [Value.cells] at hcs
      obtain ⟨rfl, rfl, rfl⟩ := hcs
      exact ⟨[], .inl ⟨rfl, rfl, rfl, rfl⟩⟩
    · simp [Value.cells] at hcs
      obtain ⟨rfl, rfl, rfl⟩ := hcs
      exact ⟨zs, .inr ⟨_, rfl, hl, hm, by simpa using hz, hcell, hwz⟩⟩
  clear hA0 hval0
  refine (walk a0 len0 cap0 z0 W w0 hLm).mono fun e W' ⟨he, bel⟩ => ?_
  subst he
  exact ⟨_, rfl, _, _, _, [], _, [], hW', trodAll_mk1 (shut_bool Tryd.underlying4 _), (trodAll_cons_mk (Below.trod laidOut (by kernel_rfl) (of_decide_eq_true (by kernel_rfl)) k0 bel lt0) trodAll_mk0), rfl, bel.frame _, fun h => by cases h⟩

theorem over : Rows.fnStmtTextsRow.holds Tryd.pinned (OpenSpec.ofChange Rows.fnStmtTextsSpec) :=
  OpenClaim.holds_of_wide 3 Tryd.f3 rfl rfl rfl rfl rfl rfl rfl ⟨rfl, rfl, rfl, rfl, rfl⟩ rfl rfl rfl rfl rfl (by kernel_rfl) Tryd.func3 (by kernel_rfl)
    (of_decide_eq_true (by kernel_rfl)) (by unfold Func.isWrapper; first | (rw [if_pos (by decide +kernel)]; kernel_rfl) | (rw [if_neg (by decide +kernel)]; exact ⟨rfl, rfl⟩))
    (fun os started H enc _ => lifted os started H enc)

/-- ████ THE STATEMENT: THE TIED CARD ████ -/
theorem proved : Rows.FnStmtTextsCardSaid :=
  Claim7.holds_tied_plain_at .later [] [.data, .data, .data, .sentinel, .sentinel] true (true, "0003a437c9de32906924123970e0e9ae9de71c24c16ce0acdec23ca6a1bf78a0") true
    over (fun _ h => by cases h) (by kernel_rfl) (fun _ h => by cases h) fnStmtTexts_row_tie rfl ⟨rfl, rfl⟩ (by kernel_rfl) rfl
    (fun f fn hf hfn => by
      obtain rfl : f = 3 := Option.some.inj ((show Tryd.prog.funcNamed "loop.example/g00983/laws.FnStmtTexts" = some 3 by kernel_rfl).symm.trans hf) |>.symm
      obtain rfl : fn = Tryd.f3 := (Option.some.inj (Tryd.func3.symm.trans hfn)).symm
      exact ⟨by kernel_rfl, fun j t ht => by
        rw [Tryd.params3] at ht
        have hm : t ∈ [22] := by simpa using Array.mem_of_getElem? ht
        have hall : ([22].all fun u => !Tryd.prog.wantsStandIn u) = true := by kernel_rfl
        exact (show Tryd.prog.wantsStandIn t = false by simpa using List.all_eq_true.1 hall t hm)⟩)
    (by kernel_rfl)
#print axioms proved
end Go.Proofs.YtpipnhceajdfkaaDoor.fnStmtTexts
