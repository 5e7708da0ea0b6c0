/- For every input the law FnParts returns true and leaves its argument as it was; no condition. -/
import Derived.Test.YtmanplejhcjnaaaRows
import Derived.WalkKit
import Derived.ProofKit
import Derived.OpenShut
import Derived.ShutString
import Derived.ChangeOld
import Derived.Below
import Derived.Test.YtmanplejhcjnaaaWtD
import Derived.Test.YtmanplejhcjnaaaWtJ
import Derived.Test.YtmanplejhcjnaaaWtL
import Derived.Test.YtmanplejhcjnaaaEvalD
namespace Go.Proofs.Ytmanplejhcjnaaa.fnParts
open Go.ChangeShapes Go.WideShapes Go.ChangeAt Go.RowKit
open Go.ChangeMaps (open_string shut_string)
set_option linter.unusedVariables false

theorem own : ownKnob Try.prog.godebug = none := by kernel_rfl
theorem laidOut : laidOutB Try.prog = true := by kernel_rfl

/-- WHAT THE WALK IS TOLD OF A SLICE OF INTEGERS THAT CAME IN: it is nil; or it leads to a row of 'cap' cells, the numbers 'zs' (the first 'len' are its elements, the rest its spare room), each fitting its kind. -/
def IsRow (k : IntKind) (w : World) (a : Option Addr) (len cap : Nat) (zs : List Int) : Prop :=
  (a = none ∧ len = 0 ∧ cap = 0 ∧ zs = []) ∨
  ∃ x, a = some x ∧ len ≤ cap ∧ cap ≤ maxLen ∧ zs.length = cap ∧ (∀ i, i < zs.length → w.cell? (x.add i) = some (.int k (zs.getD i 0))) ∧ ∀ n ∈ zs, (Lit.int k n).wf = true

open Go.Proofs.Ytmanplejhcjnaaa.row Go.Proofs.Ytmanplejhcjnaaa.val Go.Proofs.Ytmanplejhcjnaaa.expr Go.Proofs.Ytmanplejhcjnaaa.grow Go.Proofs.Ytmanplejhcjnaaa.cur Go.Proofs.Ytmanplejhcjnaaa.wrt
theorem cut_l (a : Option Addr) (n c q r s : Nat) (b : Option Addr) (hb : (if c = q then a else a.map (·.add (q * 2))) = b) (hq : q ≤ n) (hr : n - q = r) (hs : c - q = s) (w : World) :
    (Instr.sliceAt 25 (.slice a n c) (some (.int .i64 q)) none none).run Try.prog w = .ok (.slice b r s) w := by
  subst hb hr hs
  rw [run_sliceAt_slice w _ _ _ _ _ elemW, Go.run_slice_l w _ _ _ _ elemW _ _ (by omega) (by omega), sizeW]
  simp only [Result.andThen, sliced]
  rw [show ((q : Int)).toNat = q by omega]
theorem cut_row {w : World} {a b : Option Addr} {n c q r : Nat} {L : List Wt} (h : WriteRow w a n L) (hb : (if c = q then a else a.map (·.add (q * 2))) = b) (hq : q ≤ n) (hc : n ≤ c) (hr : n - q = r) : WriteRow w b r (L.drop q) := by
  subst hr
  by_cases e : n - q = 0
  · rw [e]
    exact ⟨by rw [List.length_drop, h.1]; exact e, fun k hk => absurd hk (by omega)⟩
  · obtain ⟨b0, off, s, rfl, _⟩ := h.2 0 (by omega)
    rw [if_neg (by omega)] at hb
    rw [← hb, Option.map_some, Addr.add_mid]
    exact GRow.drop h q hq
theorem cut_spot {a b : Option Addr} {c q : Nat} (hs : ∀ x, a = some x → x.spot = none) (hb : (if c = q then a else a.map (·.add (q * 2))) = b) : ∀ x, b = some x → x.spot = none := by
  intro x hx
  subst hb
  by_cases e : c = q
  · rw [if_pos e] at hx; exact hs x hx
  · rw [if_neg e] at hx
    cases a with
    | none => cases hx
    | some y =>
      obtain ⟨b0, off, spot⟩ := y
      have := hs _ rfl
      simp only at this; subst this
      rw [Option.map_some, Addr.add_mid] at hx
      cases hx; rfl
theorem mod_nat {x : Int} {n : Nat} (h : 0 ≤ x) : ∃ q : Nat, x.tmod ((n : Int) + 1) = q ∧ q ≤ n := by
  rw [Int.tmod_eq_emod_of_nonneg h]
  have h1 := Int.emod_nonneg x (show (n : Int) + 1 ≠ 0 by omega)
  have h2 := Int.emod_lt_of_pos x (show 0 < (n : Int) + 1 by omega)
  exact ⟨(x % ((n : Int) + 1)).toNat, by omega, by omega⟩
theorem app_q (M : List Int) (L : List Wt) (q : Nat) : appW M L (q : Int) = putAll M (L.take q) := by unfold appW; rw [show ((q : Int)).toNat = q by omega]
theorem app_rest {M : List Int} {L : List Wt} {q n : Nat} (hl : L.length = n) : appW (putAll M (L.take q)) (L.drop q) (n : Int) = putAll M L := by
  rw [appW_all _ _ (by rw [List.length_drop]; omega), ← putAll_app, List.take_append_drop]
theorem has_q (w : World) (a : Option Addr) (n cap : Nat) (T : List Int) (q : Int) (r : Bool) (hn : (n : Int) ≤ 1048576) (h : Row w a n T) (hr : decide (q ∈ T) = r) (m : Nat) :
    Calls Try.prog 15 #[.slice a n cap, .int .i64 q] (w.drewN m) fun e w' => e = .returned (.bool r) ∧ w' = w.drewN m :=
  (has_any (w.drewN m) a n cap T q r hn (h.drewN m) hr).mono fun _ _ ⟨h1, h2⟩ => ⟨h1, h2.symm⟩
set_option maxHeartbeats 4000000 in
set_option maxRecDepth 100000 in
theorem walk (a0 : Option Addr) (len0 cap0 : Nat) (z0 : List Int) (w : World) (w0 : IsRow .u8 w a0 len0 cap0 z0) :
    Calls Try.prog 3 #[.slice a0 len0 cap0] w fun e w' => e = .returned (.bool true) ∧ Below w.heap.size w w' := by
  have HB : Hid (∀ w1 : World, Below w.heap.size w w1 → ∀ i : Nat, i < len0 → ∃ (b off : Nat) (v : Int), a0 = some ⟨b, off, none⟩ ∧ w1.cell? ⟨b, off + i, none⟩ = some (.int .u8 v)) := by
    intro w1 hb1 i hi
    rcases w0 with ⟨_, h0, _⟩ | ⟨x, rfl, hl, _, hz, hcell, _⟩
    · omega
    · obtain ⟨b, off, rfl, hc⟩ := ints_at hcell (by omega)
      exact ⟨b, off, _, rfl, (hb1.cell (World.block_lt_of_cell? w _ (hc i (by omega)))).trans (hc i (by omega))⟩
  clear w0
  by_cases hbig : (1048576 : Int) < len0
  · go_enter Try.func3, Try.ntmps3
    go_wp2_with (go_at_call 9; refine (big_yes _ _ _ _ hbig).mono ?_; rintro e w1 ⟨rfl, rfl⟩)
    go_ret
    exact ⟨rfl, Below.refl _ _⟩
  have hsm : (len0 : Int) ≤ 1048576 := by omega
  clear hbig
  go_enter Try.func3, Try.ntmps3
  go_wp2_with (first
    | (go_at_call 9; refine (big_no _ _ _ _ hsm).mono ?_; rintro e w1 ⟨rfl, rfl⟩)
    | (go_at_call 10; refine (drawwrites_any _ _ _ _ hsm (HB.out _ (Below.refl _ _))).mono ?_; rintro e w1 ⟨gm, M, ad, n, c, L, rfl, hn9, hnc, hsp, HM, hRM, hRL, hb1⟩; refine Hid.out ?_))
  have H1 := Lib.hid (And.intro hRM (And.intro hRL hb1))
  have HSPT := Lib.hid hsp
  clear hRM hRL hb1 hsp
  refine Lib.hid ?_
  go_wp2_with (go_at_call 11; refine (places_any _ _ _ _ hsm (HB.out _ H1.out.2.2)).mono ?_; rintro e w2 ⟨v, Z, rfl, hl, HZ, hown, hb2⟩; refine Hid.out ?_)
  obtain ⟨g, cz, rfl, hbg, hlg, x, hx, hcx⟩ := own_atI hown (k := 0) (by omega)
  have hx0 := (HZ.out x (List.mem_of_getElem? hx)).1
  have hx1 := (HZ.out x (List.mem_of_getElem? hx)).2
  obtain ⟨q, hmod, hqn⟩ := mod_nat (n := n) hx0
  have hdz : ¬ (n : Int) + 1 = 0 := by omega
  have H2 := Lib.hid (And.intro (H1.out.1.below hb2) (And.intro (H1.out.2.1.below hb2) (below_then H1.out.2.2 hb2)))
  have hq9 : (q : Int) ≤ 9 := by omega
  obtain ⟨b', hb'⟩ : ∃ b', (if c = q then ad else ad.map (·.add (q * 2))) = b' := ⟨_, rfl⟩
  obtain ⟨r, hr⟩ : ∃ r, n - q = r := ⟨_, rfl⟩
  obtain ⟨s, hs⟩ : ∃ s, c - q = s := ⟨_, rfl⟩
  have HCR := Lib.hid (show ∀ w' : World, WriteRow w' ad n L → WriteRow w' b' r (L.drop q) from fun w' h => cut_row h hb' hqn hnc hr)
  have HCS := Lib.hid (cut_spot HSPT.out hb')
  have hcl := cut_l ad n c q r s b' hb' hqn hr hs
  have hch := cut_h ad n c q HSPT.out (by omega)
  have hrn : (r : Int) ≤ 9 := by omega
  have hrs : r ≤ s := by omega
  have hn9' : (n : Int) ≤ 9 := by omega
  have hLl := H1.out.2.1.1
  have hMl := H1.out.1.1
  have HA1 := Lib.hid (show ∀ w' : World, Row w' (some ⟨gm, 0, none⟩) 12 M → WriteRow w' ad n L → Calls Try.prog 12 #[.slice (some ⟨gm, 0, none⟩) 12 12, .slice ad n c, .int .i64 q] w' (NewAt w' 12 (putAll M (L.take q))) from fun w' h1 h2 => by rw [← app_q]; exact impl_apply w' _ 12 12 M ad n c L q (by omega) (by omega) hnc HSPT.out h1 h2)
  have HA2 := Lib.hid (show ∀ (w' : World) (g1 : Nat), Row w' (some ⟨g1, 0, none⟩) 12 (putAll M (L.take q)) → WriteRow w' b' r (L.drop q) → Calls Try.prog 12 #[.slice (some ⟨g1, 0, none⟩) 12 12, .slice b' r s, .int .i64 n] w' (NewAt w' 12 (putAll M L)) from fun w' g1 h1 h2 => by rw [← app_rest (q := q) hLl]; exact impl_apply w' _ 12 12 _ b' r s _ n (by omega) (by omega) hrs HCS.out h1 h2)
  have HA3 := Lib.hid (show ∀ w' : World, Row w' (some ⟨gm, 0, none⟩) 12 M → WriteRow w' ad n L → Calls Try.prog 12 #[.slice (some ⟨gm, 0, none⟩) 12 12, .slice ad n c, .int .i64 n] w' (NewAt w' 12 (putAll M L)) from fun w' h1 h2 => by rw [← appW_all M L (show (L.length : Int) ≤ (n : Int) by omega)]; exact impl_apply w' _ 12 12 M ad n c L n (by omega) (by omega) hnc HSPT.out h1 h2)
  have HT1 := Lib.hid (show ∀ w' : World, WriteRow w' ad n L → Calls Try.prog 13 #[.slice ad q c] w' (NewInts w' (tch (L.take q))) from fun w' h => impl_touched w' ad q c _ (by omega) (h.take q hqn))
  have HPL := Lib.hid (show (putAll M (L.take q)).length = 12 ∧ (putAll M L).length = 12 from ⟨by rw [putAll_len, hMl], by rw [putAll_len, hMl]⟩)
  have HTL := Lib.hid (show (tch (L.take q)).length ≤ 9 from Nat.le_trans (tch_len _) (by rw [List.length_take]; omega))
  have HML := Lib.hid hMl
  clear hown hb2 hl hx hbg hlg hb' hr hs hLl hMl
  refine Lib.hid ?_
  go_wp2_with (go_at_call 12; (with_reducible refine (HA1.out _ H2.out.1 H2.out.2.1).mono ?_); rintro e w3 ⟨g3, rfl, hg3, hx3, hb3⟩; refine Hid.out ?_)
  have H3 := Lib.hid (And.intro (box_row hx3 HPL.out.1) (And.intro (H2.out.1.below hb3) (And.intro (H2.out.2.1.below hb3) (below_then H2.out.2.2 hb3))))
  clear hx3 hb3 hg3 hcx
  refine Lib.hid ?_
  go_wp2_with (go_at_call 12; (with_reducible refine (HA2.out _ _ H3.out.1 (HCR.out _ H3.out.2.2.1)).mono ?_); rintro e w4 ⟨g4, rfl, hg4, hx4, hb4⟩; refine Hid.out ?_)
  have H4 := Lib.hid (And.intro (box_row hx4 HPL.out.2) (And.intro (H3.out.1.below hb4) (And.intro (H3.out.2.1.below hb4) (And.intro (H3.out.2.2.1.below hb4) (below_then H3.out.2.2.2 hb4)))))
  clear hx4 hb4 hg4
  refine Lib.hid ?_
  go_wp2_with (go_at_call 12; (with_reducible refine (HA3.out _ H4.out.2.2.1 H4.out.2.2.2.1).mono ?_); rintro e w5 ⟨g5, rfl, hg5, hx5, hb5⟩; refine Hid.out ?_)
  have H5 := Lib.hid (And.intro (box_row hx5 HPL.out.2) (And.intro (H4.out.1.below hb5) (And.intro (H4.out.2.1.below hb5) (And.intro (H4.out.2.2.1.below hb5) (And.intro (H4.out.2.2.2.1.below hb5) (below_then H4.out.2.2.2.2 hb5))))))
  clear hx5 hb5 hg5
  refine Lib.hid ?_
  go_wp2_with (go_at_call 13; (with_reducible refine (HT1.out _ H5.out.2.2.2.2.1).mono ?_); rintro e w6 ⟨at6, n6, c6, rfl, ho6, hb6⟩; refine Hid.out ?_)
  have hn6 : (n6 : Int) ≤ 9 := by have := own_len ho6; have := HTL.out; omega
  have H6 := Lib.hid (And.intro (Row.of_own ho6) (And.intro (H5.out.1.below hb6) (And.intro (H5.out.2.1.below hb6) (And.intro (H5.out.2.2.1.below hb6) (And.intro (H5.out.2.2.2.1.below hb6) (below_then H5.out.2.2.2.2.2 hb6))))))
  clear ho6 hb6
  refine Lib.hid ?_
  go_wp2_with (go_at_call 14; refine (same_any _ _ _ 12 _ _ (putAll M L) (by omega) H6.out.2.1 H6.out.2.2.1).mono ?_; rintro e w7 ⟨rfl, hg7⟩; refine Hid.out ?_)
  have hb7 := below_grown hg7
  have H7 := Lib.hid (And.intro (H6.out.1.below hb7) (And.intro (H6.out.2.2.2.1.below hb7) (And.intro (H6.out.2.2.2.2.1.below hb7) (below_then H6.out.2.2.2.2.2 hb7))))
  clear hg7 hb7
  refine Lib.hid ?_
  go_wp2
  go_loopw [11] (fun i wr => ∃ k : Nat, k ≤ 12 ∧ i = .int .i64 k ∧ Below w7.heap.size w7 wr) (fun i _ => 12 - (intOf i).toNat)
  case atStart => exact ⟨0, Nat.zero_le _, rfl, Below.refl _ _⟩
  case round =>
    obtain ⟨k, hk, rfl, hbel⟩ := hrel
    have HBE := Lib.hid hbel
    by_cases hlt : k < 12
    · have hI : (k : Int) < 12 := by omega
      have HT := Lib.hid (H7.out.1.below hbel)
      obtain ⟨gA, oA, X, eA, _, hXA, cA⟩ := (H7.out.2.1.below hbel).2 k hlt
      obtain ⟨gB, oB, Y, eB, _, hYB, cB⟩ := (H7.out.2.2.1.below hbel).2 k hlt
      cases eA; cases eB
      rw [Nat.zero_add] at cA cB
      clear hbel
      by_cases hin : (k : Int) ∈ tch (L.take q)
      · have HD := Lib.hid (show decide ((k : Int) ∈ tch (L.take q)) = true by simpa using hin)
        clear hin hXA hYB
        have HQ := Lib.hid (has_q wr at6 n6 c6 _ _ true (by omega) HT.out HD.out)
        go_wp2
        go_quiet ((first | (go_at_call 15; with_reducible exact Calls.quiet_of_same (HQ.out _))))
        go_wp2
        go_roundw
        case rel => exact ⟨k + 1, by omega, by go_num, by first | exact HBE.out | exact below_drewN HBE.out _⟩
        case measure => simp [intOf]; omega
      · have HD := Lib.hid (show decide ((k : Int) ∈ tch (L.take q)) = false by simpa using hin)
        have hXY : X = Y := by
          have := putAll_other (k := k) (L.take q) M (fun y hy e => hin (tch_mem.2 ⟨y, hy, e⟩))
          rw [hXA, hYB] at this; exact Option.some.inj this
        subst hXY
        clear hin hXA hYB
        have HQ := Lib.hid (has_q wr at6 n6 c6 _ _ false (by omega) HT.out HD.out)
        go_wp2
        go_quiet ((first | (go_at_call 15; with_reducible exact Calls.quiet_of_same (HQ.out _))))
        go_wp2
        go_roundw
        case rel => exact ⟨k + 1, by omega, by go_num, by first | exact HBE.out | exact below_drewN HBE.out _⟩
        case measure => simp [intOf]; omega
    · have hI : ¬ (k : Int) < 12 := by omega
      have HF := Lib.hid (below_then H7.out.2.2.2 hbel)
      clear hbel
      go_wp2
      go_ret
      exact ⟨rfl, HF.out⟩

/-! ### THE ROW's STEP: WRITTEN OUT: LEAVE IT -/
set_option maxRecDepth 100000 in
theorem lifted (os : Os) (started : os.Started) (H : Type) (enc : TypeId × Value → H) :
    ReturnsInHanded {} Try.checked os 3 .any (Rows.fnPartsSpec.pre6 enc Try.prog Try.f3 Rows.fnPartsRow.domain false) (Rows.fnPartsSpec.post enc Try.prog Try.f3 false true false false) := by
  refine returnsInHanded_of_change (C := Try.checked) own started (by kernel_rfl) Try.func3
    (ChangeSpec.witness6 (enc := enc) (C := Try.checked) false ⟨#[], #[.slice none 0 0], []⟩ 8 (by kernel_rfl) (by kernel_rfl) (by kernel_rfl) (by kernel_rfl)) ?_
  intro W base args ds gs before hval0 hW hcnd _
  have hval : ∀ (j : Nat) t v, Try.f3.params[j]? = some t → args[j]? = some v → Value.okWide Try.prog W .any base t v := hval0
  have hW' := hW
  obtain ⟨p, q, hA0, hV, rfl, hfz, hnd⟩ := hW
  have hA : DataW.TrodAll enc Try.prog W 0 (fun _ => true) true Try.f3.params.toList args.toList ds p := hA0
  rw [Try.params3] at hA hval
  obtain ⟨v0, vs0, d0, ds0, p0, q0, hargs, rfl, rfl, h0, r0⟩ := trodAll_cons hA
  obtain ⟨rfl, rfl, rfl⟩ := trodAll_nil r0
  obtain rfl : args = #[v0] := by cases args; simp_all
  obtain ⟨rfl, rfl⟩ := trodVars_none hV
  obtain ⟨a0, len0, cap0, rfl⟩ := okWide_slice Try.underlying22 (hval 0 22 v0 rfl rfl)
  have k0 := h0
  have lt0 : ∀ x ∈ p0, x.block < W.heap.size := by obtain ⟨m, hm⟩ := k0; exact DataW.trod_lt m _ _ _ hm
  obtain ⟨z0, w0⟩ : ∃ zs, IsRow .u8 W a0 len0 cap0 zs := by
    obtain ⟨fuel, hf⟩ := h0
    rcases open_ints Try.underlying22 Try.underlying5 (by kernel_rfl) hf with ⟨hcs, _⟩ | ⟨x, l, c, zs, hcs, _, hl, hm, hz, _, hcell, hwz⟩
    · simp [Value.cells] at hcs
      obtain ⟨rfl, rfl, rfl⟩ := hcs
      exact ⟨[], .inl ⟨rfl, rfl, rfl, rfl⟩⟩
    · simp [Value.cells] at hcs
      obtain ⟨rfl, rfl, rfl⟩ := hcs
      exact ⟨zs, .inr ⟨_, rfl, hl, hm, by simpa using hz, hcell, hwz⟩⟩
  clear hA0 hval0
  refine (walk a0 len0 cap0 z0 W w0).mono fun e W' ⟨he, bel⟩ => ?_
  subst he
  exact ⟨_, rfl, _, _, _, [], _, [], hW', trodAll_mk1 (shut_bool Try.underlying4 _), (trodAll_cons_mk (Below.trod laidOut (by kernel_rfl) (of_decide_eq_true (by kernel_rfl)) k0 bel lt0) trodAll_mk0), rfl, bel.frame _, fun h => by cases h⟩

theorem over : Rows.fnPartsRow.holds Try.pinned (OpenSpec.ofChange Rows.fnPartsSpec) :=
  OpenClaim.holds_of_wide 3 Try.f3 rfl rfl rfl rfl rfl rfl rfl ⟨rfl, rfl, rfl, rfl, rfl⟩ rfl rfl rfl rfl rfl (by kernel_rfl) Try.func3 (by kernel_rfl)
    (of_decide_eq_true (by kernel_rfl)) (by unfold Func.isWrapper; first | (rw [if_pos (by decide +kernel)]; kernel_rfl) | (rw [if_neg (by decide +kernel)]; exact ⟨rfl, rfl⟩))
    (fun os started H enc _ => lifted os started H enc)

/-- ████ THE STATEMENT ████ -/
theorem proved : Rows.FnPartsSaid := over
#print axioms proved
end Go.Proofs.Ytmanplejhcjnaaa.fnParts
