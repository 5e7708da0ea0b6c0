/- For every text FnExactParseProgram returns true and leaves the parser's own error as it was; the listed variables of the library hold what the program's text lays (the card ties them). -/
import Derived.Test.YtpipnhceajdfkaaGreatDoorRows
import Derived.WalkKit
import Derived.ProofKit
import Derived.OpenShut
import Derived.ShutString
import Derived.Test.YtpipnhceajdfkaaGreatDoorCards
import Derived.Test.YtpipnhceajdfkaaGreatDoorTie
import Derived.LaidMore
import Derived.Stop.Joined
import Derived.SevenTiedAt
import Derived.MakeChecks
import Derived.Below
import Derived.ChangeVars
import Derived.Lay
import Derived.RowKitTokens
import Derived.Test.YtpipnhceajdfkaaGreatDoorGEppg35
import Derived.Test.YtpipnhceajdfkaaGreatDoorGEppg41
import Derived.Test.YtpipnhceajdfkaaGreatDoorGEppg46
import Derived.Test.YtpipnhceajdfkaaGreatDoorGEppg49
import Derived.Test.YtpipnhceajdfkaaGreatDoorGEppg7
namespace Go.Proofs.YtpipnhceajdfkaaGreatDoor.fnExactParseProgram
open Go.ChangeShapes Go.WideShapes Go.ChangeAt Go.RowKit
open Go.ChangeMaps (open_string shut_string)
set_option linter.unusedVariables false      -- a walk need not use every 'w<i>' (that an integer argument fits its kind)

theorem own : ownKnob Tryz.prog.godebug = none := by kernel_rfl

open Go.WideMaps Go.WideElems
open Go.Proofs.YtpipnhceajdfkaaGreatDoor.row Go.Proofs.YtpipnhceajdfkaaGreatDoor.val Go.Proofs.YtpipnhceajdfkaaGreatDoor.expr Go.Proofs.YtpipnhceajdfkaaGreatDoor.stm Go.Proofs.YtpipnhceajdfkaaGreatDoor.tex Go.Proofs.YtpipnhceajdfkaaGreatDoor.lay Go.Proofs.YtpipnhceajdfkaaGreatDoor.spl Go.Proofs.YtpipnhceajdfkaaGreatDoor.blk Go.Proofs.YtpipnhceajdfkaaGreatDoor.prg Go.Proofs.YtpipnhceajdfkaaGreatDoor.mrk
def Told (P : List Tk) (k : Int) (w : World) (e : Ending) (w' : World) : Prop :=
  ∃ (q : Option Addr) (c base : Nat) (xs : List Value) (bv : Nat → Value), e = .returned (.tuple #[.agg #[.slice q P.length c], .int .i64 k]) ∧ P.length ≤ c ∧
    Hid (w.heap.size ≤ base ∧ Fam base w' (.slice q P.length c) P.length xs bv P 42 45) ∧ Below w.heap.size w w'
theorem parse_told {s : ByteArray} {P : List Tk} {k : Int} (hP : ParseIs s.data.toList P k) (ea : Addr) (w : World) (hE : Env ea w) :
    Calls Tryz.prog 8 #[.string s] w (Told P k w) := by
  refine (impl_parseprogram ea s w hE).mono ?_
  rintro e w' ⟨q, n, c, Q, j, rfl, hp, hnc, _, ⟨base, xs, bv, hb0, hF⟩, hb⟩
  obtain ⟨rfl, rfl⟩ := hp.out.unique hP
  have hn := hF.1
  subst hn
  exact ⟨q, c, base, xs, bv, rfl, hnc, ⟨hb0, hF⟩, hb⟩
theorem parse_small {l : List UInt8} {P : List Tk} {k : Int} (h : ParseIs l P k) : P.length ≤ 6 ∧ ∀ t ∈ P, t.b.length ≤ 24 := by
  rcases h with ⟨_, rfl, _⟩ | ⟨_, _, _, _, _, _, _, _, rfl, _⟩ | ⟨_, _, hp, _, _⟩ | ⟨_, _, _, _, rfl, _⟩
  · exact ⟨by simp, fun t ht => by cases ht⟩
  · exact ⟨by simp, fun t ht => by cases ht⟩
  · exact ⟨hp.2.1, fun t ht => (hp.2.2 t ht).1.2.2⟩
  · exact ⟨by simp, fun t ht => by cases ht⟩
theorem own_mono {lo lo' n : Nat} {w : World} {a : Option Addr} {gb nb : Nat → Nat} (h : OwnP lo' w a n gb nb) (hl : lo ≤ lo') : OwnP lo w a n gb nb := by
  rcases h with h | ⟨g, cs, h1, h2⟩
  · exact .inl h
  · refine .inr ⟨g, cs, h1, h2.box, h2.big, Nat.le_trans hl h2.low, h2.row, h2.small, fun j hj => ?_, h2.apart⟩
    rcases h2.body j hj with h3 | ⟨h3, h4⟩
    · exact .inl h3
    · exact .inr ⟨Nat.le_trans hl h3, h4⟩
set_option maxHeartbeats 8000000 in
set_option maxRecDepth 100000 in
theorem walk (a0 : ByteArray) (w0 : a0.size ≤ maxLen) (w : World) (hL : laidMet Tryz.prog Rows.fnExactParseProgramRow.laid w) (hS : w.ShapedOpen Tryz.prog) :
    Calls Tryz.prog 4 #[.string a0] w fun e w' => e = .returned (.bool true) ∧ Below w.heap.size w w' := by
  obtain ⟨ea, hEnv⟩ := env_of hL hS
  have HE := Lib.hid hEnv
  clear hL hS hEnv w0
  by_cases hbig : (1048576 : Int) < a0.size
  · go_enter Tryz.func4, Tryz.ntmps4
    go_wp2
    go_ret
    exact ⟨rfl, Below.refl _ _⟩
  · have hsm : (a0.size : Int) ≤ 1048576 := by omega
    clear hbig
    go_enter Tryz.func4, Tryz.ntmps4
    go_wp2_with (go_at_call 10; (with_reducible refine (spec_parseprogram a0 _).mono ?_); rintro e w1 ⟨a1, n1, c1, P, k, rfl, HPI, hn1, HR1, hb1⟩; refine Hid.out ?_)
    have hPn := HR1.out.1
    subst hPn
    have hps := parse_small HPI.out
    have HSZ := Lib.hid (show Sizes P from ⟨by have := hps.1; omega, fun t ht => by have := hps.2 t ht; omega⟩)
    have H24 := Lib.hid (show ∀ t ∈ P, t.b.length ≤ 1000 from fun t ht => by have := hps.2 t ht; omega)
    have hP6 : P.length ≤ 6 := hps.1
    have HA1 := Lib.hid (And.intro (Box.new w1 #[.slice none 0 0] 26) (below_new w1 (.cells #[.slice none 0 0] 26)))
    have HB1 := Lib.hid (And.intro hb1 HR1.out)
    clear hb1 HR1 hps
    refine Lib.hid ?_
    go_wp2_with ((refine wpList_store_box rfl 26 _ _ rfl w1.heap.size _ _ HA1.out.1 #[.slice a1 P.length c1] rfl rfl rfl (by kernel_rfl) (by simp [Value.oneCell']) ?_); intro w2 hx2 hg2; refine Hid.out ?_)
    have hb2 : Below w1.heap.size w1 w2 := HA1.out.2.grown hg2 HA1.out.2.size (fun j hj => by cases hj; exact Nat.le_refl _)
    have H2 := Lib.hid (And.intro hx2 (And.intro (HB1.out.2.below hb2) (below_then HB1.out.1 hb2)))
    have HE2 := Lib.hid (HE.out.on H2.out.2.2)
    have hl12 : w1.heap.size < w2.heap.size := hx2.lt
    clear hx2 hg2 hb2 HA1 HB1
    refine Lib.hid ?_
    go_wp2_with (go_at_call 8; (with_reducible refine (parse_told HPI.out ea _ HE2.out).mono ?_); rintro e w3 ⟨q, cq, base, xs, bv, rfl, hqc, HF, hb3⟩; refine Hid.out ?_)
    have hown := own_of HF.out.2 H24.out
    have HO3 := Lib.hid (And.intro (own_mono hown.1 HF.out.1) hown.2)
    have HA3 := Lib.hid (And.intro (Box.new w3 #[.slice none 0 0] 26) (below_new w3 (.cells #[.slice none 0 0] 26)))
    have HB3 := Lib.hid hb3
    have HRQ := Lib.hid HF.out.2.row
    clear hb3 hown
    refine Lib.hid ?_
    go_wp2_with ((refine wpList_store_box rfl 26 _ _ rfl w3.heap.size _ _ HA3.out.1 #[.slice q P.length cq] rfl rfl rfl (by kernel_rfl) (by simp [Value.oneCell']) ?_); intro w4 hx4 hg4; refine Hid.out ?_)
    have hb4 : Below w3.heap.size w3 w4 := HA3.out.2.grown hg4 HA3.out.2.size (fun j hj => by cases hj; exact Nat.le_refl _)
    have hb24 : Below w2.heap.size w2 w4 := below_then HB3.out hb4
    have H4 := Lib.hid (And.intro hx4 (And.intro (H2.out.1.below hb24) (And.intro (HRQ.out.below hb4) (And.intro (H2.out.2.1.below hb24) (And.intro (HO3.out.1.below hb4) hb24)))))
    have c4 : w4.cell? ⟨w3.heap.size, 0, none⟩ = some (.slice q P.length cq) := hx4.cell 0
    have d4 : w4.cell? ⟨w1.heap.size, 0, none⟩ = some (.slice a1 P.length c1) := H4.out.2.1.cell 0
    clear hx4 hg4 hb4 hb24 HA3
    refine Lib.hid ?_
    go_wp2_with (go_at_call 11; (with_reducible refine (eqprogram_any _ q a1 P.length cq c1 P HSZ.out H4.out.2.2.1 H4.out.2.2.2.1).mono ?_); rintro e w5 ⟨rfl, hb5⟩; refine Hid.out ?_)
    have hb25 : Below w2.heap.size w2 w5 := below_then H4.out.2.2.2.2.2 hb5
    have H5 := Lib.hid (And.intro (H4.out.1.below hb5) (And.intro (H4.out.2.1.below hb5) (And.intro (H4.out.2.2.2.2.1.below hb5) hb25)))
    have HS5 := Lib.hid (And.intro hb25.size (Nat.lt_of_lt_of_le H4.out.1.lt hb5.size))
    have c5 : w5.cell? ⟨w3.heap.size, 0, none⟩ = some (.slice q P.length cq) := H5.out.1.cell 0
    obtain ⟨M, hM⟩ : ∃ M : Int, st (nbOf P) 1 P.length = M := ⟨_, rfl⟩
    have hbd := st_bound (nb := nbOf P) (k := 1) P.length HO3.out.2.2.2
    have hMn : ¬ M < 0 := by omega
    have HMK := Lib.hid (show Calls Tryz.prog 12 #[.agg #[.slice q P.length cq], .int .i64 1] w5 (fun e w' => e = .returned (.int .i64 M) ∧ (Below w2.heap.size w5 w' ∧ Far w3.heap.size w5 w') ∧ Hid (MarkedP w2.heap.size w' q P.length (gbOf bv) (nbOf P) 1)) by
      rw [← hM]; exact markprogram_any w2.heap.size w3.heap.size w5 q P.length cq (gbOf bv) (nbOf P) H5.out.2.2.1 HS5.out.1 HO3.out.2.1 HO3.out.2.2.1 1 (by omega) (by omega) (by omega))
    have HHD := Lib.hid (show ∀ w', MarkedP w2.heap.size w' q P.length (gbOf bv) (nbOf P) 1 → Calls Tryz.prog 13 #[.agg #[.slice q P.length cq], .int .i64 1] w' (fun e w'' => e = .returned (.int .i64 M) ∧ Below w'.heap.size w' w'') from fun w' h' => by
      rw [← hM]; exact heldprogram_any w2.heap.size w' q P.length cq (gbOf bv) (nbOf P) 1 h' (by omega) (by omega) (by omega) HO3.out.2.2.2)
    clear hb5 hb25 c4 d4 hM hbd
    refine Lib.hid ?_
    go_wp2_with (go_at_call 12; (with_reducible refine HMK.out.mono ?_); rintro e w6 ⟨rfl, hbf6, HM6⟩; refine Hid.out ?_)
    have hb26 : Below w2.heap.size w2 w6 := H5.out.2.2.2.trans hbf6.1
    have H6 := Lib.hid (And.intro (show Box w3.heap.size #[.slice q P.length cq] 26 w6 from (hbf6.2 w3.heap.size (Nat.le_refl _) HS5.out.2).trans H5.out.1) (And.intro (H2.out.1.below hb26) (And.intro (H2.out.2.1.below hb26) (below_then H2.out.2.2 hb26))))
    have c6 : w6.cell? ⟨w3.heap.size, 0, none⟩ = some (.slice q P.length cq) := H6.out.1.cell 0
    clear hbf6 hb26 c5
    refine Lib.hid ?_
    go_wp2_with (go_at_call 13; (with_reducible refine (HHD.out _ HM6.out).mono ?_); rintro e w7 ⟨rfl, hb7⟩; refine Hid.out ?_)
    have H7 := Lib.hid (And.intro (H6.out.1.below hb7) (And.intro (H6.out.2.1.below hb7) (And.intro (H6.out.2.2.1.below hb7) (below_then H6.out.2.2.2 hb7))))
    have HM7 := Lib.hid (HM6.out.below hb7)
    have HE7 := Lib.hid (HE.out.on H7.out.2.2.2)
    clear hb7 c6
    refine Lib.hid ?_
    go_wp2_with (go_at_call 8; (with_reducible refine (parse_told HPI.out ea _ HE7.out).mono ?_); rintro e w8 ⟨q8, c8, base8, xs8, bv8, rfl, hqc8, HF8, hb8⟩; refine Hid.out ?_)
    have H8 := Lib.hid (And.intro (H7.out.1.below hb8) (And.intro (H7.out.2.1.below hb8) (And.intro (H7.out.2.2.1.below hb8) (below_then H7.out.2.2.2 hb8))))
    have HM8 := Lib.hid (HM7.out.below hb8)
    have HR8 := Lib.hid HF8.out.2.row
    have HA8 := Lib.hid (And.intro (Box.new w8 #[.slice none 0 0] 26) (below_new w8 (.cells #[.slice none 0 0] 26)))
    clear hb8
    refine Lib.hid ?_
    go_wp2_with ((refine wpList_store_box rfl 26 _ _ rfl w8.heap.size _ _ HA8.out.1 #[.slice q8 P.length c8] rfl rfl rfl (by kernel_rfl) (by simp [Value.oneCell']) ?_); intro w9 hx9 hg9; refine Hid.out ?_)
    have hb9 : Below w8.heap.size w8 w9 := HA8.out.2.grown hg9 HA8.out.2.size (fun j hj => by cases hj; exact Nat.le_refl _)
    have H9 := Lib.hid (And.intro (H8.out.1.below hb9) (And.intro (H8.out.2.2.1.below hb9) (And.intro (HR8.out.below hb9) (below_then H8.out.2.2.2 hb9))))
    have HM9 := Lib.hid (HM8.out.below hb9)
    have c9 : w9.cell? ⟨w8.heap.size, 0, none⟩ = some (.slice q8 P.length c8) := hx9.cell 0
    have d9 : w9.cell? ⟨w1.heap.size, 0, none⟩ = some (.slice a1 P.length c1) := (H8.out.2.1.below hb9).cell 0
    clear hx9 hg9 hb9 HA8
    refine Lib.hid ?_
    go_wp2_with (go_at_call 11; (with_reducible refine (eqprogram_any _ q8 a1 P.length c8 c1 P HSZ.out H9.out.2.2.1 H9.out.2.1).mono ?_); rintro e w10 ⟨rfl, hb10⟩; refine Hid.out ?_)
    have H10 := Lib.hid (below_then H9.out.2.2.2 hb10)
    have HM10 := Lib.hid (HM9.out.below hb10)
    have c10 : w10.cell? ⟨w3.heap.size, 0, none⟩ = some (.slice q P.length cq) := (H9.out.1.below hb10).cell 0
    clear hb10 c9 d9
    refine Lib.hid ?_
    go_wp2_with (go_at_call 13; (with_reducible refine (HHD.out _ HM10.out).mono ?_); rintro e w11 ⟨rfl, hb11⟩)
    go_ret
    exact ⟨rfl, below_then H10.out hb11⟩

/-! ### THE ROW's STEP: WRITTEN OUT: LEAVE IT -/
/-- The door's own heap meets the condition: three closed facts. -/
theorem door_met (os : Os) (args : Array Value) : laidMetH Tryz.prog Rows.fnExactParseProgramRow.laid ((World.laidAll Tryz.prog os Rows.fnExactParseProgramRow.laid).forCall (fun _ _ => 0) ⟨#[], args, []⟩).memory := by
  rw [MakeChecks.laidMetH_plain _ _ _ (by kernel_rfl)]; exact laidMet_laidAll _ (by kernel_rfl) (by kernel_rfl)

set_option maxRecDepth 100000 in
theorem lifted (os : Os) (started : os.Started) (H : Type) (enc : TypeId × Value → H) :
    ReturnsInHanded {} Tryz.checked os 4 .any (fun w args => (Rows.fnExactParseProgramSpec.pre enc Tryz.prog Tryz.f4 [] false w args ∧ laidMetH Tryz.prog Rows.fnExactParseProgramRow.laid w) ∧ sizedMet enc Tryz.prog Tryz.f4 (OpenSpec.ofChange Rows.fnExactParseProgramSpec) false w args) (Rows.fnExactParseProgramSpec.post enc Tryz.prog Tryz.f4 false true false false) := by
  refine Go.Proofs.YtpipnhceajdfkaaGreatDoor.prg.handed_shaped (C := Tryz.checked) (X := fun w _ => laidMetH Tryz.prog Rows.fnExactParseProgramRow.laid w) (fun _ _ _ hh h => h.of_heap hh) own started (by kernel_rfl) Tryz.func4
    (ChangeSpec.witness_shaped (enc := enc) (C := Tryz.checked) (os := os) (X := fun w _ => laidMetH Tryz.prog Rows.fnExactParseProgramRow.laid w) false (World.laidAll Tryz.prog os Rows.fnExactParseProgramRow.laid) #[.string ByteArray.empty] 8 (World.laidAll_os _ _ _) (World.shaped_of_ZipB (by kernel_rfl) (by kernel_rfl)) (by kernel_rfl) (by kernel_rfl) (by kernel_rfl) (door_met os _)) ?_
  intro W base args ds gs before hval0 hW hL hS
  have hLm : laidMet Tryz.prog Rows.fnExactParseProgramRow.laid W := by rw [MakeChecks.laidMetH_plain _ _ _ (by kernel_rfl)] at hL; exact hL
  have hval : ∀ (j : Nat) t v, Tryz.f4.params[j]? = some t → args[j]? = some v → Value.okWide Tryz.prog W .any base t v := hval0
  have hW' := hW
  obtain ⟨p, q, hA0, hV, rfl, hfz, hnd⟩ := hW
  have hA : DataW.TrodAll enc Tryz.prog W 0 (fun _ => true) true Tryz.f4.params.toList args.toList ds p := hA0
  rw [Tryz.params4] at hA hval
  obtain ⟨v0, vs0, d0, ds0, p0, q0, hargs, rfl, rfl, h0, r0⟩ := trodAll_cons hA
  obtain ⟨rfl, rfl, rfl⟩ := trodAll_nil r0
  obtain rfl : args = #[v0] := by cases args; simp_all
  obtain ⟨gv, tv, csv, fuelv, dv, pv, rfl, hgv, htv, hvar, hdv, rfl⟩ := trodVars_one hV
  obtain rfl := Option.some.inj (Go.Proofs.YtpipnhceajdfkaaGreatDoor.prg.gEI.symm.trans hgv)
  obtain rfl := Option.some.inj (Go.Proofs.YtpipnhceajdfkaaGreatDoor.prg.gEIType.symm.trans htv)
  obtain ⟨old, hcsv, hov, hxv⟩ := held_of_trod_list Tryz.underlying51 hdv
  simp only [Prod.mk.injEq] at hxv
  obtain ⟨rfl, rfl⟩ := hxv
  have hcs' : csv = #[old] := by
    cases csv
    simp_all
  subst hcs'
  obtain ⟨a0, rfl, rfl, rfl, w0⟩ := open_string Tryz.underlying9 (hval 0 9 v0 rfl rfl) h0
  clear hA0 hval0
  simp only [List.append_nil] at hW'
  refine (walk a0 w0 W hLm hS).mono fun e W' ⟨he, hg⟩ => ?_
  subst he
  exact ⟨_, rfl, _, _, _, [], [], _, hW', (trodAll_cons_mk (shut_bool Tryz.underlying4 _) trodAll_mk0), (trodAll_cons_mk (shut_string Tryz.underlying9 w0) trodAll_mk0), (by
    have h9 := trodVars_mk1 (enc := enc) (spare := fun b => decide (b < W.heap.size)) (fuel := 1) (d := tok enc old) (p := []) hgv htv (Go.Proofs.YtpipnhceajdfkaaGreatDoor.tex.var_below hg hvar) (trod_held Tryz.underlying51 hov 0)
    exact h9), hg.frame _, fun h => by cases h⟩

theorem over : Rows.fnExactParseProgramRow.holds Tryz.pinned (OpenSpec.ofChange Rows.fnExactParseProgramSpec) :=
  OpenClaim.holds_of_wide 4 Tryz.f4 rfl rfl rfl rfl rfl rfl rfl ⟨rfl, rfl, rfl, rfl, rfl⟩ rfl rfl rfl rfl rfl (by kernel_rfl) Tryz.func4 (by kernel_rfl)
    (of_decide_eq_true (by kernel_rfl)) (by unfold Func.isWrapper; first | (rw [if_pos (by decide +kernel)]; kernel_rfl) | (rw [if_neg (by decide +kernel)]; exact ⟨rfl, rfl⟩))
    (fun os started H enc _ => lifted os started H enc)

/-- ████ THE STATEMENT: THE TIED CARD ████ -/
theorem proved : Rows.FnExactParseProgramCardSaid :=
  Claim7.holds_tied_plain_at .later [] [.data, .data, .data, .data, .sentinel, .sentinel, .sentinel, .pinned] true (true, "e8508c1d44b02e71a4c878c8f27c63275663aa1a06204b88e04d22df4ee5b4bf") true
    over (fun _ h => by cases h) (by kernel_rfl) (fun _ h => by cases h) fnExactParseProgram_row_tie rfl ⟨rfl, rfl⟩ (by kernel_rfl) rfl
    (fun f fn hf hfn => by
      obtain rfl : f = 4 := Option.some.inj ((show Tryz.prog.funcNamed "loop.example/g00983/laws.FnExactParseProgram" = some 4 by kernel_rfl).symm.trans hf) |>.symm
      obtain rfl : fn = Tryz.f4 := (Option.some.inj (Tryz.func4.symm.trans hfn)).symm
      exact ⟨by kernel_rfl, fun j t ht => by
        rw [Tryz.params4] at ht
        have hm : t ∈ [9] := by simpa using Array.mem_of_getElem? ht
        have hall : ([9].all fun u => !Tryz.prog.wantsStandIn u) = true := by kernel_rfl
        exact (show Tryz.prog.wantsStandIn t = false by simpa using List.all_eq_true.1 hall t hm)⟩)
    (by kernel_rfl)
#print axioms proved
end Go.Proofs.YtpipnhceajdfkaaGreatDoor.fnExactParseProgram
