/- For every input the law FnExactSplitFields returns true and leaves its argument as it was; no condition. -/
import Derived.Test.YtmdpdfdiknfopaaRows
import Derived.WalkKit
import Derived.ProofKit
import Derived.OpenShut
import Derived.ShutString
import Derived.Test.YtmdpdfdiknfopaaSplW
import Derived.Test.YtmdpdfdiknfopaaSplI
import Derived.Test.YtmdpdfdiknfopaaMark
namespace Go.Proofs.Ytmdpdfdiknfopaa.fnExactSplitFields
open Go.ChangeShapes Go.WideShapes Go.ChangeAt Go.RowKit
open Go.ChangeMaps (open_string shut_string)
set_option linter.unusedVariables false      -- a walk need not use every 'w<i>' (that an integer argument fits its kind)

theorem own : ownKnob Try.prog.godebug = none := by kernel_rfl

open Go.Proofs.Ytmdpdfdiknfopaa.spl Go.Proofs.Ytmdpdfdiknfopaa.mark
theorem spec_long (s : ByteArray) (hs : (600 : Int) < s.size) (w : World) :
    Calls Try.prog 15 #[.string s] w (SplOut s.data.toList w) := by
  have HB := Lib.hid (bad_long (l := s.data.toList) (by have : s.data.toList.length = s.size := Array.length_toList; omega))
  have HO := Lib.hid (World.ownsRow_made (base := w.heap.size) (e := 9) (size := 1) w #[] 0 (Nat.le_refl _) (by decide) rfl)
  go_enter Try.func15, Try.ntmps15
  go_wp2
  go_ret2
  exact out_bad HB.out ((Below.refl _ _).alloc (Nat.le_refl _) _) HO.out
theorem impl_long (s : ByteArray) (hs : (600 : Int) < s.size) (w : World) :
    Calls Try.prog 16 #[.string s] w (SplOut s.data.toList w) := by
  have HB := Lib.hid (bad_long (l := s.data.toList) (by have : s.data.toList.length = s.size := Array.length_toList; omega))
  go_enter Try.func16, Try.ntmps16
  go_wp2
  go_step3
  go_wp2
  try rw [Exit.noGoto_ret]
  go_ret2
  exact out_bad HB.out (Below.refl _ _) (World.ownsRow_nil _ _ _ _)
/-- What a splitter hands back, the row read as strings. -/
def SplS (l : List UInt8) (w : World) (e : Ending) (w' : World) : Prop :=
  ∃ (a : Option Addr) (n cap : Nat) (L : List ByteArray), e = .returned (.tuple #[.slice a n cap, .bool (okB l)]) ∧ w'.ownsRow w.heap.size 9 1 (.slice a n cap) n (strs L) ∧ Hid (L = (fieldsR l).map (fun f => ⟨f.toArray⟩)) ∧ Hid (n = (fieldsR l).length) ∧ Below w.heap.size w w'
theorem splS {l : List UInt8} {w : World} {e : Ending} {w' : World} (h : SplOut l w e w') : SplS l w e w' := by
  obtain ⟨a, n, cap, he, ho, hb⟩ := h
  have hn := own_len ho
  rw [← hn, strCells_strs] at ho
  exact ⟨a, n, cap, _, he, ho, rfl, hn, hb⟩
theorem spec_all (s : ByteArray) (w : World) : Calls Try.prog 15 #[.string s] w (SplS s.data.toList w) := by
  by_cases h : (600 : Int) < s.size
  · exact (spec_long s h w).mono fun _ _ h => splS h
  · exact (spec_spl s (by omega) w).mono fun _ _ h => splS h
theorem impl_all (s : ByteArray) (w : World) : Calls Try.prog 16 #[.string s] w (SplS s.data.toList w) := by
  by_cases h : (600 : Int) < s.size
  · exact (impl_long s h w).mono fun _ _ h => splS h
  · exact (impl_spl s (by omega) w).mono fun _ _ h => splS h
theorem fields_bd (l : List UInt8) : (fieldsR l).length ≤ 24 := by
  unfold fieldsR
  split
  · rename_i h; simp [okB] at h; omega
  · simp

set_option maxHeartbeats 2000000 in
set_option maxRecDepth 100000 in
theorem walk (a0 : ByteArray) (w0 : a0.size ≤ maxLen) (w : World) :
    Calls Try.prog 6 #[.string a0] w fun e w' => e = .returned (.bool true) ∧ Below w.heap.size w w' := by
  by_cases hbig : (1048576 : Int) < a0.size
  · go_enter Try.func6, Try.ntmps6
    go_wp2
    go_ret
    exact ⟨rfl, Below.refl _ _⟩
  · clear w0
    have hbd := fields_bd a0.data.toList
    go_enter Try.func6, Try.ntmps6
    go_wp2_with (go_at_call 15; refine (spec_all _ _).mono ?_; rintro e w1 ⟨a1, n, cap1, L, rfl, ho1, hL, hn, hb1⟩; refine Hid.out ?_)
    have hn24 : (n : Int) ≤ 24 := by have := hn.out; omega
    have HO1 := Lib.hid ho1
    have HL := hL
    have HN := hn
    clear ho1 hL hn hbd
    refine Lib.hid ?_
    go_wp2_with (go_at_call 16; refine (impl_all _ _).mono ?_; rintro e w2 ⟨a2, n2, cap2, L2, rfl, ho2, hL2, hn2, hb2⟩; refine Hid.out ?_)
    obtain rfl : n2 = n := by rw [hn2.out, ← HN.out]
    obtain rfl : L2 = L := by rw [hL2.out, ← HL.out]
    have HO2 := Lib.hid ho2
    have HO1' := Lib.hid (HO1.out.kept (grown_below hb2 none) (by cases a1 <;> simp [Value.ownBlock]))
    have hb12 := hb1.trans (hb2.mono hb1.size)
    -- the two rows lie in different blocks: the second is younger
    have HD : Hid (∀ g, Value.ownBlock (.slice a1 n2 cap1) = some g → g < w1.heap.size) := fun g hg => (HO1.out.lt g hg).2
    clear ho2 hL2 hn2
    refine Lib.hid ?_
    go_wp2_with (go_at_call 17; refine (eq_any _ _ _ _ _ _ _ _ _ (by omega) HO2.out HO1'.out).mono ?_; rintro e w3 ⟨rfl, hg3⟩; refine Hid.out ?_)
    have HO3 := Lib.hid (HO2.out.kept hg3 (by cases a2 <;> simp [Value.ownBlock]))
    have HO31 := Lib.hid (HO1'.out.kept hg3 (by cases a1 <;> simp [Value.ownBlock]))
    have hb13 := hb12.trans ((below_grown hg3).mono hb12.size)
    clear hg3
    refine Lib.hid ?_
    go_wp2_with (go_at_call 18; refine (mark_any _ _ _ _ _ 1 _ (by omega) (by omega) (by omega) HO3.out).mono ?_; rintro e w4 ⟨rfl, hg4, L4, ho4, hM4⟩; refine Hid.out ?_)
    have HO4 := Lib.hid ho4
    have HM4 := Lib.hid hM4
    have HO41 := Lib.hid (HO31.out.kept hg4 (by
      cases h1 : Value.ownBlock (.slice a1 n2 cap1) with
      | none => exact .inl rfl
      | some g =>
        right; intro e
        have := HD.out g h1
        have := (HO2.out.lt g e.symm).1
        omega))
    have hb14 : Below w.heap.size w w4 := hb13.grown hg4 hb13.size (fun k hk => by have := (HO2.out.lt k hk).1; have := hb1.size; omega)
    clear ho4 hM4 hg4
    refine Lib.hid ?_
    go_wp2_with (go_at_call 19; refine (held_any _ _ _ _ _ 1 _ (by omega) (by omega) (by omega) HO4.out HM4.out).mono ?_; rintro e w5 ⟨rfl, hb5⟩; refine Hid.out ?_)
    have HO5 := Lib.hid (HO4.out.kept (grown_below hb5 none) (by cases a2 <;> simp [Value.ownBlock]))
    have HO51 := Lib.hid (HO41.out.kept (grown_below hb5 none) (by cases a1 <;> simp [Value.ownBlock]))
    have hb15 := hb14.trans (hb5.mono hb14.size)
    clear hb5
    refine Lib.hid ?_
    go_wp2_with (go_at_call 16; refine (impl_all _ _).mono ?_; rintro e w6 ⟨a6, n6, cap6, L6, rfl, ho6, hL6, hn6, hb6⟩; refine Hid.out ?_)
    obtain rfl : n6 = n2 := by rw [hn6.out, ← HN.out]
    obtain rfl : L6 = L2 := by rw [hL6.out, ← HL.out]
    have HO6 := Lib.hid ho6
    have HO61 := Lib.hid (HO51.out.kept (grown_below hb6 none) (by cases a1 <;> simp [Value.ownBlock]))
    have HO62 := Lib.hid (HO5.out.kept (grown_below hb6 none) (by cases a2 <;> simp [Value.ownBlock]))
    have hb16 := hb15.trans (hb6.mono hb15.size)
    clear ho6 hL6 hn6 hb6
    refine Lib.hid ?_
    go_wp2_with (go_at_call 17; refine (eq_any _ _ _ _ _ _ _ _ _ (by omega) HO6.out HO61.out).mono ?_; rintro e w7 ⟨rfl, hg7⟩; refine Hid.out ?_)
    have HO7 := Lib.hid (HO62.out.kept hg7 (by cases a2 <;> simp [Value.ownBlock]))
    have hb17 := hb16.trans ((below_grown hg7).mono hb16.size)
    clear hg7
    refine Lib.hid ?_
    go_wp2_with (go_at_call 19; refine (held_any _ _ _ _ _ 1 _ (by omega) (by omega) (by omega) HO7.out HM4.out).mono ?_; rintro e w8 ⟨rfl, hb8⟩)
    go_ret
    exact ⟨rfl, hb17.trans (hb8.mono hb17.size)⟩

/-! ### THE ROW's STEP: WRITTEN OUT: LEAVE IT -/
set_option maxRecDepth 100000 in
theorem lifted (os : Os) (started : os.Started) (H : Type) (enc : TypeId × Value → H) :
    ReturnsInHanded {} Try.checked os 6 .any (Rows.fnExactSplitFieldsSpec.pre6 enc Try.prog Try.f6 Rows.fnExactSplitFieldsRow.domain false) (Rows.fnExactSplitFieldsSpec.post enc Try.prog Try.f6 false true false false) := by
  refine returnsInHanded_of_change (C := Try.checked) own started (by kernel_rfl) Try.func6
    (ChangeSpec.witness6 (enc := enc) (C := Try.checked) false ⟨#[], #[.string ByteArray.empty], []⟩ 8 (by kernel_rfl) (by kernel_rfl) (by kernel_rfl) (by kernel_rfl)) ?_
  intro W base args ds gs before hval0 hW hcnd _
  have hval : ∀ (j : Nat) t v, Try.f6.params[j]? = some t → args[j]? = some v → Value.okWide Try.prog W .any base t v := hval0
  have hW' := hW
  obtain ⟨p, q, hA0, hV, rfl, hfz, hnd⟩ := hW
  have hA : DataW.TrodAll enc Try.prog W 0 (fun _ => true) true Try.f6.params.toList args.toList ds p := hA0
  rw [Try.params6] at hA hval
  obtain ⟨v0, vs0, d0, ds0, p0, q0, hargs, rfl, rfl, h0, r0⟩ := trodAll_cons hA
  obtain ⟨rfl, rfl, rfl⟩ := trodAll_nil r0
  obtain rfl : args = #[v0] := by cases args; simp_all
  obtain ⟨rfl, rfl⟩ := trodVars_none hV
  obtain ⟨a0, rfl, rfl, rfl, w0⟩ := open_string Try.underlying9 (hval 0 9 v0 rfl rfl) h0
  clear hA0 hval0
  simp only [List.append_nil] at hW'
  refine (walk a0 w0 W).mono fun e W' ⟨he, hg⟩ => ?_
  subst he
  exact ⟨_, rfl, _, _, _, [], [], [], hW', (trodAll_cons_mk (shut_bool Try.underlying4 _) trodAll_mk0), (trodAll_cons_mk (shut_string Try.underlying9 w0) trodAll_mk0), rfl, hg.frame _, fun h => by cases h⟩

theorem over : Rows.fnExactSplitFieldsRow.holds Try.pinned (OpenSpec.ofChange Rows.fnExactSplitFieldsSpec) :=
  OpenClaim.holds_of_wide 6 Try.f6 rfl rfl rfl rfl rfl rfl rfl ⟨rfl, rfl, rfl, rfl, rfl⟩ rfl rfl rfl rfl rfl (by kernel_rfl) Try.func6 (by kernel_rfl)
    (of_decide_eq_true (by kernel_rfl)) (by unfold Func.isWrapper; first | (rw [if_pos (by decide +kernel)]; kernel_rfl) | (rw [if_neg (by decide +kernel)]; exact ⟨rfl, rfl⟩))
    (fun os started H enc _ => lifted os started H enc)

/-- ████ THE STATEMENT ████ -/
theorem proved : Rows.FnExactSplitFieldsSaid :=
  over
#print axioms proved
end Go.Proofs.Ytmdpdfdiknfopaa.fnExactSplitFields
