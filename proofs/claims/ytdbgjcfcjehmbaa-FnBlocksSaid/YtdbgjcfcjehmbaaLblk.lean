/- For every input the law FnBlocks returns true and leaves its argument as it was; no condition. -/
import Derived.Test.YtdbgjcfcjehmbaaRows
import Derived.WalkKit
import Derived.ProofKit
import Derived.OpenShut
import Derived.ShutString
import Derived.ChangeOld
import Derived.Below
import Derived.Test.YtdbgjcfcjehmbaaBlkW
import Derived.Test.YtdbgjcfcjehmbaaBlkI
namespace Go.Proofs.Ytdbgjcfcjehmbaa.fnBlocks
open Go.ChangeShapes Go.WideShapes Go.ChangeAt Go.RowKit
open Go.ChangeMaps (open_string shut_string)
set_option linter.unusedVariables false

theorem own : ownKnob Try.prog.godebug = none := by kernel_rfl
theorem laidOut : laidOutB Try.prog = true := by kernel_rfl

/-- WHAT THE WALK IS TOLD OF A SLICE OF INTEGERS THAT CAME IN: it is nil; or it leads to a row of 'cap' cells, the numbers 'zs' (the first 'len' are its elements, the rest its spare room), each fitting its kind. -/
def IsRow (k : IntKind) (w : World) (a : Option Addr) (len cap : Nat) (zs : List Int) : Prop :=
  (a = none ∧ len = 0 ∧ cap = 0 ∧ zs = []) ∨
  ∃ x, a = some x ∧ len ≤ cap ∧ cap ≤ maxLen ∧ zs.length = cap ∧ (∀ i, i < zs.length → w.cell? (x.add i) = some (.int k (zs.getD i 0))) ∧ ∀ n ∈ zs, (Lit.int k n).wf = true

open Go.Proofs.Ytdbgjcfcjehmbaa.row Go.Proofs.Ytdbgjcfcjehmbaa.val Go.Proofs.Ytdbgjcfcjehmbaa.expr Go.Proofs.Ytdbgjcfcjehmbaa.stm Go.Proofs.Ytdbgjcfcjehmbaa.blk Go.Proofs.Ytdbgjcfcjehmbaa.cur
theorem depth_of {L : List Go.Proofs.Ytdbgjcfcjehmbaa.stm.St} (hb : IsBlk L) {j : Nat} (hj : j < L.length) : DepthIs L j (hAt L j) := .inl ⟨j, rfl, hj, hb, rfl⟩
theorem end_flat {L : List Go.Proofs.Ytdbgjcfcjehmbaa.stm.St} {j : Nat} {s : Go.Proofs.Ytdbgjcfcjehmbaa.stm.St} (hs : L[j]? = some s) (ho : opn s = false) : EndIs L j (-1) := .inr ⟨rfl, fun j' e hj _ he => by
  obtain rfl : j = j' := by omega
  obtain ⟨t, ht, hot⟩ := he.opens
  rw [hs] at ht; cases ht; rw [ho] at hot; cases hot⟩
set_option maxHeartbeats 8000000 in
set_option maxRecDepth 100000 in
theorem walk (a0 : Option Addr) (len0 cap0 : Nat) (z0 : List Int) (w : World) (w0 : IsRow .u8 w a0 len0 cap0 z0) :
    Calls Try.prog 3 #[.slice a0 len0 cap0] w fun e w' => e = .returned (.bool true) ∧ Below w.heap.size w w' := by
  have HB : Hid (∀ i : Nat, i < len0 → ∃ (b off : Nat) (v : Int), a0 = some ⟨b, off, none⟩ ∧ w.cell? ⟨b, off + i, none⟩ = some (.int .u8 v)) := by
    intro i hi
    rcases w0 with ⟨_, h0, _⟩ | ⟨x, rfl, hl, _, hz, hcell, _⟩
    · omega
    · obtain ⟨b, off, rfl, hc⟩ := ints_at hcell (by omega)
      exact ⟨b, off, _, rfl, hc i (by omega)⟩
  clear w0
  by_cases hbig : (1048576 : Int) < len0
  · go_enter Try.func3, Try.ntmps3
    go_wp2_with (go_at_call 8; refine (big_yes _ _ _ _ hbig).mono ?_; rintro e w1 ⟨rfl, rfl⟩)
    go_ret
    exact ⟨rfl, Below.refl _ _⟩
  · have hsm : (len0 : Int) ≤ 1048576 := by omega
    clear hbig
    go_enter Try.func3, Try.ntmps3
    go_wp2_with (first
      | (go_at_call 8; refine (big_no _ _ _ _ hsm).mono ?_; rintro e w1 ⟨rfl, rfl⟩)
      | (go_at_call 9; refine (drawblock_any _ _ _ _ hsm HB.out).mono ?_; rintro e w1 ⟨g, n, c, L, rfl, HK, hn, ho1, hb1⟩; refine Hid.out ?_))
    have hlen : L.length = n := by have := ho1.1; rw [stsC_len] at this; omega
    have HLN := Lib.hid hlen
    have HCP := Lib.hid (own_le ho1)
    have HS1 := Lib.hid (StRow.of_own ho1)
    have HB1 := Lib.hid hb1
    have hnI : (n : Int) ≤ 1048576 := by omega
    have HBT := Lib.hid (show true = true ↔ IsBlk L from ⟨fun _ => HK.out, fun _ => rfl⟩)
    clear ho1 hb1 hlen
    rcases Nat.eq_zero_or_pos n with hn0 | hn0
    · have hI : ¬ (0 : Int) < n := by omega
      clear hn0
      refine Lib.hid ?_
      go_wp2_with (go_at_call 10; refine (impl_blockok _ n c L hnI _ HS1.out true HBT.out).mono ?_; rintro e w2 ⟨rfl, hb2⟩; refine Hid.out ?_)
      have HB2 := Lib.hid (below_then HB1.out hb2)
      clear hb2
      refine Lib.hid ?_
      go_wp2
      go_loopw [4] (fun i wr => i = .int .i64 0 ∧ Below w.heap.size w wr) (fun _ _ => 0)
      case atStart => exact ⟨rfl, HB2.out⟩
      case round =>
        obtain ⟨rfl, hbel⟩ := hrel
        have HBB := Lib.hid hbel
        clear hbel
        go_wp2
        go_ret
        exact ⟨rfl, HBB.out⟩
    · have hI : (0 : Int) < n := by omega
      have HD0 := Lib.hid (show DepthIs L 0 0 from depth_of HK.out (j := 0) (by rw [HLN.out]; exact hn0))
      refine Lib.hid ?_
      go_wp2_with (go_at_call 10; refine (impl_blockok _ n c L hnI _ HS1.out true HBT.out).mono ?_; rintro e w2 ⟨rfl, hb2⟩; refine Hid.out ?_)
      have HS2 := Lib.hid (HS1.out.below hb2)
      have HB2 := Lib.hid (below_then HB1.out hb2)
      clear hb2
      refine Lib.hid ?_
      go_wp2_with (go_at_call 11; refine (impl_depthof _ n c L hnI HCP.out _ HS2.out 0 0 HD0.out).mono ?_; rintro e w3 ⟨rfl, hb3⟩; refine Hid.out ?_)
      have HS3 := Lib.hid (HS2.out.below hb3)
      have HB3 := Lib.hid (below_then HB2.out hb3)
      clear hb3
      refine Lib.hid ?_
      go_wp2
      go_loopw [4] (fun i wr => ∃ k : Nat, k ≤ n ∧ i = .int .i64 k ∧ StRow wr (some ⟨g, 0, none⟩) n L ∧ Below w.heap.size w wr) (fun i _ => n - (intOf i).toNat)
      case atStart => exact ⟨0, Nat.zero_le _, rfl, HS3.out, HB3.out⟩
      case round =>
        obtain ⟨k, hk, rfl, hS, hbel⟩ := hrel
        by_cases hlt : k < n
        · have hkI : (k : Int) < n := by omega
          obtain ⟨g', off, s, he, hlb, hs, hrg⟩ := hS.2 k hlt
          injection he with he; injection he with e1 e2 _; subst e1 e2
          have HR := Lib.hid (And.intro hS (And.intro hbel (And.intro hrg (And.intro hlb hs))))
          clear hS hbel hrg hs
          cases ho : opn s
          · have HE := Lib.hid (end_flat HR.out.2.2.2.2 ho)
            have h4 : (s.k == 4) = false := by unfold opn at ho; cases h : (s.k == 4) <;> simp [h] at ho ⊢
            have h5 : (s.k == 5) = false := by unfold opn at ho; cases h : (s.k == 5) <;> simp [h] at ho ⊢
            clear ho
            go_wp2_with (go_at_call 12; refine (impl_endof _ n c L hnI _ HR.out.1 k (-1) HE.out).mono ?_; rintro e w4 ⟨rfl, hb4⟩; refine Hid.out ?_)
            have hc4 := (hb4.cell (p := ⟨g, 0 + k * 6, none⟩) hlb).trans (range6 HR.out.2.2.1).1
            rw [Nat.zero_add] at hc4
            have HS4 := Lib.hid (HR.out.1.below hb4)
            have HB4 := Lib.hid (below_then HR.out.2.1 hb4)
            clear hb4
            refine Lib.hid ?_
            go_wp2
            go_roundw
            case rel => exact ⟨k + 1, by omega, by go_num, HS4.out, HB4.out⟩
            case measure => simp [intOf]; omega
          · obtain ⟨e, he⟩ := end_exists HK.out HR.out.2.2.2.2 ho
            have hke := he.1
            have hen : e < n := by have := he.2.1; rw [HLN.out] at this; exact this
            have HE := Lib.hid (show EndIs L k e from .inl ⟨k, e, rfl, HK.out, he, rfl⟩)
            obtain ⟨g2, off2, s2, he2, hlb2, hs2, hrg2⟩ := HR.out.1.2 e hen
            injection he2 with he2; injection he2 with e3 e4 _; subst e3 e4
            have h6 : (s2.k == 6) = true := by
              obtain ⟨t, ht, hk6⟩ := he.kind
              rw [hs2] at ht; cases ht; rw [hk6]; rfl
            have h6' : (s2.k != 6) = false := by unfold bne; rw [h6]; rfl
            have hdp := he.depth
            obtain ⟨d, hd⟩ : ∃ d, hAt L k = d := ⟨_, rfl⟩
            have hdb := blk_bounds HK.out k
            have HDE := Lib.hid (show DepthIs L e (d + 1) by rw [← hd, ← hdp]; exact depth_of HK.out he.2.1)
            have HDK := Lib.hid (show DepthIs L k d by rw [← hd]; exact depth_of HK.out (by rw [HLN.out]; exact hlt))
            have HRE := Lib.hid hrg2
            have hor : (s.k == 4) = true ∨ ((s.k == 4) = false ∧ (s.k == 5) = true) := by
              unfold opn at ho
              cases h : (s.k == 4)
              · exact .inr ⟨rfl, by simpa [h] using ho⟩
              · exact .inl rfl
            have heI : (k : Int) < e := by omega
            have henI : (e : Int) < n := by omega
            have he0 : (0 : Int) ≤ e := by omega
            rw [hd] at hdb
            have hd0 := hdb.1
            have hd3 := hdb.2
            clear ho he hs2 hrg2 hdp hd hdb
            rcases hor with h4 | ⟨h4, h5⟩
            all_goals
              go_wp2_with (go_at_call 12; refine (impl_endof _ n c L hnI _ HR.out.1 k e HE.out).mono ?_; rintro e5 w4 ⟨rfl, hb4⟩; refine Hid.out ?_)
              have hc4 := (hb4.cell (p := ⟨g, 0 + k * 6, none⟩) hlb).trans (range6 HR.out.2.2.1).1
              have hd4 := (hb4.cell (p := ⟨g, 0 + e * 6, none⟩) hlb).trans (range6 HRE.out).1
              rw [Nat.zero_add] at hc4 hd4
              have HS4 := Lib.hid (HR.out.1.below hb4)
              have HB4 := Lib.hid (below_then HR.out.2.1 hb4)
              clear hb4
              refine Lib.hid ?_
              go_wp2_with (go_at_call 11; refine (impl_depthof _ n c L hnI HCP.out _ HS4.out e (d + 1) HDE.out).mono ?_; rintro e6 w5 ⟨rfl, hb5⟩; refine Hid.out ?_)
              have HS5 := Lib.hid (HS4.out.below hb5)
              have HB5 := Lib.hid (below_then HB4.out hb5)
              clear hb5 hc4 hd4
              refine Lib.hid ?_
              go_wp2_with (go_at_call 11; refine (impl_depthof _ n c L hnI HCP.out _ HS5.out k d HDK.out).mono ?_; rintro e7 w6 ⟨rfl, hb6⟩; refine Hid.out ?_)
              have HS6 := Lib.hid (HS5.out.below hb6)
              have HB6 := Lib.hid (below_then HB5.out hb6)
              clear hb6
              refine Lib.hid ?_
              go_wp2
              go_roundw
              case rel => exact ⟨k + 1, by omega, by go_num, HS6.out, HB6.out⟩
              case measure => simp [intOf]; omega
        · have hkI : ¬ (k : Int) < n := by omega
          have HBB := Lib.hid hbel
          clear hbel
          go_wp2
          go_ret
          exact ⟨rfl, HBB.out⟩

/-! ### THE ROW's STEP: WRITTEN OUT: LEAVE IT -/
set_option maxRecDepth 100000 in
theorem lifted (os : Os) (started : os.Started) (H : Type) (enc : TypeId × Value → H) :
    ReturnsInHanded {} Try.checked os 3 .any (Rows.fnBlocksSpec.pre6 enc Try.prog Try.f3 Rows.fnBlocksRow.domain false) (Rows.fnBlocksSpec.post enc Try.prog Try.f3 false true false false) := by
  refine returnsInHanded_of_change (C := Try.checked) own started (by kernel_rfl) Try.func3
    (ChangeSpec.witness6 (enc := enc) (C := Try.checked) false ⟨#[], #[.slice none 0 0], []⟩ 8 (by kernel_rfl) (by kernel_rfl) (by kernel_rfl) (by kernel_rfl)) ?_
  intro W base args ds gs before hval0 hW hcnd _
  have hval : ∀ (j : Nat) t v, Try.f3.params[j]? = some t → args[j]? = some v → Value.okWide Try.prog W .any base t v := hval0
  have hW' := hW
  obtain ⟨p, q, hA0, hV, rfl, hfz, hnd⟩ := hW
  have hA : DataW.TrodAll enc Try.prog W 0 (fun _ => true) true Try.f3.params.toList args.toList ds p := hA0
  rw [Try.params3] at hA hval
  obtain ⟨v0, vs0, d0, ds0, p0, q0, hargs, rfl, rfl, h0, r0⟩ := trodAll_cons hA
  obtain ⟨rfl, rfl, rfl⟩ := trodAll_nil r0
  obtain rfl : args = #[v0] := by cases args; simp_all
  obtain ⟨rfl, rfl⟩ := trodVars_none hV
  obtain ⟨a0, len0, cap0, rfl⟩ := okWide_slice Try.underlying22 (hval 0 22 v0 rfl rfl)
  have k0 := h0
  have lt0 : ∀ x ∈ p0, x.block < W.heap.size := by obtain ⟨m, hm⟩ := k0; exact DataW.trod_lt m _ _ _ hm
  obtain ⟨z0, w0⟩ : ∃ zs, IsRow .u8 W a0 len0 cap0 zs := by
    obtain ⟨fuel, hf⟩ := h0
    rcases open_ints Try.underlying22 Try.underlying5 (by kernel_rfl) hf with ⟨hcs, _⟩ | ⟨x, l, c, zs, hcs, _, hl, hm, hz, _, hcell, hwz⟩
    · simp [Value.cells] at hcs
      obtain ⟨rfl, rfl, rfl⟩ := hcs
      exact ⟨[], .inl ⟨rfl, rfl, rfl, rfl⟩⟩
    · simp [Value.cells] at hcs
      obtain ⟨rfl, rfl, rfl⟩ := hcs
      exact ⟨zs, .inr ⟨_, rfl, hl, hm, by simpa using hz, hcell, hwz⟩⟩
  clear hA0 hval0
  refine (walk a0 len0 cap0 z0 W w0).mono fun e W' ⟨he, bel⟩ => ?_
  subst he
  exact ⟨_, rfl, _, _, _, [], _, [], hW', trodAll_mk1 (shut_bool Try.underlying4 _), (trodAll_cons_mk (Below.trod laidOut (by kernel_rfl) (of_decide_eq_true (by kernel_rfl)) k0 bel lt0) trodAll_mk0), rfl, bel.frame _, fun h => by cases h⟩

theorem over : Rows.fnBlocksRow.holds Try.pinned (OpenSpec.ofChange Rows.fnBlocksSpec) :=
  OpenClaim.holds_of_wide 3 Try.f3 rfl rfl rfl rfl rfl rfl rfl ⟨rfl, rfl, rfl, rfl, rfl⟩ rfl rfl rfl rfl rfl (by kernel_rfl) Try.func3 (by kernel_rfl)
    (of_decide_eq_true (by kernel_rfl)) (by unfold Func.isWrapper; first | (rw [if_pos (by decide +kernel)]; kernel_rfl) | (rw [if_neg (by decide +kernel)]; exact ⟨rfl, rfl⟩))
    (fun os started H enc _ => lifted os started H enc)

/-- ████ THE STATEMENT ████ -/
theorem proved : Rows.FnBlocksSaid := over
#print axioms proved
end Go.Proofs.Ytdbgjcfcjehmbaa.fnBlocks
