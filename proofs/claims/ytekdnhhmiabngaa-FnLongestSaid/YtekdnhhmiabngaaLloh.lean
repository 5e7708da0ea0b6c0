/- For every input the law FnLongest returns true and leaves its argument as it was; no condition. -/
import Derived.Test.YtekdnhhmiabngaaRows
import Derived.WalkKit
import Derived.ProofKit
import Derived.OpenShut
import Derived.ShutString
import Derived.ChangeOld
import Derived.Below
import Derived.Test.YtekdnhhmiabngaaGHub33
import Derived.Test.YtekdnhhmiabngaaGHub35
import Derived.Test.YtekdnhhmiabngaaGHub39
import Derived.Test.YtekdnhhmiabngaaGHub36
import Derived.Test.YtekdnhhmiabngaaGHub34
import Derived.Test.YtekdnhhmiabngaaGHub0
import Derived.Test.YtekdnhhmiabngaaGHub16
import Derived.Test.YtekdnhhmiabngaaGHub22
import Derived.Test.YtekdnhhmiabngaaGHub29
import Derived.Test.YtekdnhhmiabngaaGHub18
import Derived.Test.YtekdnhhmiabngaaGHub40
import Derived.Deep.RegionHeld3
import Derived.Deep.RegionLaw
import Derived.Deep.AppendLies
namespace Go.Proofs.Ytekdnhhmiabngaa.fnLongest
open Go.ChangeShapes Go.WideShapes Go.ChangeAt Go.RowKit
open Go.ChangeMaps (open_string shut_string)
set_option linter.unusedVariables false

theorem own : ownKnob Try.prog.godebug = none := by kernel_rfl
theorem laidOut : laidOutB Try.prog = true := by kernel_rfl

/-- WHAT THE WALK IS TOLD OF A SLICE OF INTEGERS THAT CAME IN: it is nil; or it leads to a row of 'cap' cells, the numbers 'zs' (the first 'len' are its elements, the rest its spare room), each fitting its kind. -/
def IsRow (k : IntKind) (w : World) (a : Option Addr) (len cap : Nat) (zs : List Int) : Prop :=
  (a = none ∧ len = 0 ∧ cap = 0 ∧ zs = []) ∨
  ∃ x, a = some x ∧ len ≤ cap ∧ cap ≤ maxLen ∧ zs.length = cap ∧ (∀ i, i < zs.length → w.cell? (x.add i) = some (.int k (zs.getD i 0))) ∧ ∀ n ∈ zs, (Lit.int k n).wf = true

open Go.Proofs.Ytekdnhhmiabngaa.row Go.Proofs.Ytekdnhhmiabngaa.val Go.Proofs.Ytekdnhhmiabngaa.expr Go.Proofs.Ytekdnhhmiabngaa.stm Go.Proofs.Ytekdnhhmiabngaa.cur Go.Proofs.Ytekdnhhmiabngaa.blk Go.Proofs.Ytekdnhhmiabngaa.prg Go.Proofs.Ytekdnhhmiabngaa.exe
theorem rng_below {w w' : World} {g o : Nat} {cs : List Value} (h : w.rangeAt g o cs) (hg : g < w.heap.size) (hb : Below w.heap.size w w') : w'.rangeAt g o cs := fun j v hj => (hb.cell (p := ⟨g, o + j, none⟩) hg).trans (h j v hj)
theorem sizes_drawn {P : List Tk} (hl : P.length ≤ 3) (h : ∀ t ∈ P, TkOk t) : Sizes P := ⟨by omega, fun t ht => by have := (h t ht).2.1; omega⟩
theorem prg_drawn {P : List Tk} (h1 : 1 ≤ P.length) (hl : P.length ≤ 3) (h : ∀ t ∈ P, TkOk t) : IsPrg P := ⟨h1, by omega, fun t ht => ⟨(h t ht).1, (h t ht).2.2⟩⟩
theorem rdg_val {R : List Int} (h : RdgIn R) : allV R = true := (allV_iff R).2 fun q hq => by have := h q hq; exact isVal_in (by omega) (by omega)
theorem own_slice9 {w : World} {B : Nat} {ty : TypeId} {z : Nat} {v : Value} {n : Nat} {xs : List Value} (h : w.ownsRow B ty z v n xs) : ∃ ad cap, v = .slice ad n cap := by
  rcases h.2 with ⟨e, e0⟩ | ⟨g, c, _, e, _⟩
  · exact ⟨_, _, by rw [e, e0]⟩
  · exact ⟨_, _, e⟩
theorem st_news {w w' : World} {gb nb : Nat} {B : List Go.Proofs.Ytekdnhhmiabngaa.stm.St} (h : StRow w (some ⟨gb, 0, none⟩) nb B) (hb : Below w.heap.size w w') : ∀ j u, (stsC B)[j]? = some u → w'.cell? ((⟨gb, 0, none⟩ : Addr).add j) = some u := by
  intro j u hj
  have hjl : j < nb * 6 := by have := (List.getElem?_eq_some_iff.1 hj).1; rw [stsC_len, h.1] at this; exact this
  obtain ⟨b, off, s, e, hlt, hs, hr⟩ := h.2 (j / 6) (by omega)
  cases e
  have hjj : j / 6 * 6 + j % 6 = j := by omega
  have h2 := stsC_at hs (j % 6) (by omega)
  rw [hjj, hj] at h2
  have h3 := hr (j % 6) u h2.symm
  rw [Addr.add_mid, (hb.cell (p := ⟨gb, 0 + j, none⟩) hlt), show 0 + j = 0 + j / 6 * 6 + j % 6 by omega]
  exact h3
theorem sts_one (B : List Go.Proofs.Ytekdnhhmiabngaa.stm.St) : ∀ u ∈ stsC B, u.oneCell' = true := by
  intro u hu
  obtain ⟨s, _, hs⟩ := List.mem_flatMap.1 hu
  simp [stC] at hs
  rcases hs with h | h | h | h | h | h <;> rw [h] <;> rfl
theorem made_ats (w : World) (k B : Nat) (hk : w.heap.size = k) (hB : B ≤ k) (e : TypeId) (z : Nat) : (w.alloc (.cells #[] e)).ownsRow B e z (.slice (some ⟨k, 0, none⟩) 0 0) 0 [] := by
  subst hk; exact World.ownsRow_made w #[] 0 hB (Nat.zero_le _) (by simp)
set_option maxHeartbeats 8000000 in
set_option maxRecDepth 100000 in
theorem walk (a0 : Option Addr) (len0 cap0 : Nat) (z0 : List Int) (w : World) (w0 : IsRow .u8 w a0 len0 cap0 z0) :
    Calls Try.prog 3 #[.slice a0 len0 cap0] w fun e w' => e = .returned (.bool true) ∧ Below w.heap.size w w' := by
  obtain ⟨i0, hi, hz0, hz1, hz2⟩ := info_parts row.infoInt
  have HB : Hid (∀ i : Nat, i < len0 → ∃ (b off : Nat) (v : Int), a0 = some ⟨b, off, none⟩ ∧ w.cell? ⟨b, off + i, none⟩ = some (.int .u8 v)) := by
    intro i hi
    rcases w0 with ⟨_, h0, _⟩ | ⟨x, rfl, hl, _, hz, hcell, _⟩
    · omega
    · obtain ⟨b, off, rfl, hc⟩ := ints_at hcell (by omega)
      exact ⟨b, off, _, rfl, hc i (by omega)⟩
  have HB2 : Hid (∀ w1 : World, Below w.heap.size w w1 → ∀ i : Nat, i < len0 → ∃ (b off : Nat) (v : Int), a0 = some ⟨b, off, none⟩ ∧ w1.cell? ⟨b, off + i, none⟩ = some (.int .u8 v)) := by
    intro w1 hb1 i hi
    obtain ⟨b, off, v, ha, hv⟩ := HB.out i hi
    exact ⟨b, off, v, ha, (hb1.cell (World.block_lt_of_cell? w _ hv)).trans hv⟩
  clear w0
  by_cases hbig : (1048576 : Int) < len0
  · go_enter Try.func3, Try.ntmps3
    go_wp2_with (go_at_call 7; refine (big_yes _ _ _ _ hbig).mono ?_; rintro e w1 ⟨rfl, rfl⟩)
    go_ret
    exact ⟨rfl, Below.refl _ _⟩
  · have hsm : (len0 : Int) ≤ 1048576 := by omega
    clear hbig
    go_enter Try.func3, Try.ntmps3
    go_wp2_with (first
      | (go_at_call 7; refine (big_no _ _ _ _ hsm).mono ?_; rintro e w1 ⟨rfl, rfl⟩)
      | (go_at_call 8; refine (drawprogram_any _ _ _ _ hsm HB.out).mono ?_; rintro e w1 ⟨ad, n, c, P, rfl, hn1, hn3, hnc, HOK, HR, hb1⟩; refine Hid.out ?_))
    have HA1 := Lib.hid (And.intro (Box.new w1 #[.slice none 0 0] 26) (below_new w1 (.cells #[.slice none 0 0] 26)))
    obtain ⟨gp, t, gb, nb, cb, rfl, _, hgp, ht, hrg, hbc, _, hrow⟩ := HR.out.2 0 (by omega)
    have hPl : P.length = n := HR.out.1
    have HB1 := Lib.hid (And.intro hb1 (And.intro HR.out.row (And.intro hrg hrow)))
    have hIP : IsPrg P := prg_drawn (by omega) (by omega) HOK.out
    have HSZ := Lib.hid (sizes_drawn (show P.length ≤ 3 by omega) HOK.out)
    have hTO := HOK.out t (List.mem_of_getElem? ht)
    have hnb : t.b.length = nb := hrow.1
    have hnbI : (nb : Int) ≤ 20 := by have := hTO.2.1; omega
    clear hb1 HR hrg hrow
    refine Lib.hid ?_
    go_wp2_with ((refine wpList_store_box rfl 26 _ _ rfl w1.heap.size _ _ HA1.out.1 #[.slice (some ⟨gp, 0, none⟩) n c] rfl rfl rfl (by kernel_rfl) (by simp [Value.oneCell']) ?_); intro w2 hx2 hg2; refine Hid.out ?_)
    have hb2 : Below w1.heap.size w1 w2 := HA1.out.2.grown hg2 HA1.out.2.size (fun j hj => by cases hj; exact Nat.le_refl _)
    have H2 := Lib.hid (And.intro hx2 (And.intro (HB1.out.2.1.below hb2) (And.intro (rng_below HB1.out.2.2.1 hgp hb2) (And.intro (HB1.out.2.2.2.below hb2) (below_then HB1.out.1 hb2)))))
    clear hx2 hg2 hb2 HA1 HB1
    refine Lib.hid ?_
    go_wp2_with (go_at_call 9; refine (vars_any _ _ _ _ hsm (HB2.out _ H2.out.2.2.2.2)).mono ?_; rintro e w3 ⟨av, cv, V, rfl, HVL, HVV, hown3, hb3⟩; refine Hid.out ?_)
    have hvok : varsOk V = true := (varsOk_iff V).2 ⟨HVL.out, HVV.out⟩
    have hcv : 8 ≤ cv := own_le hown3
    have H3 := Lib.hid (And.intro hown3 (And.intro (H2.out.1.below hb3) (And.intro (H2.out.2.1.below hb3) (And.intro (rng_below H2.out.2.2.1 (Nat.lt_of_lt_of_le hgp (Nat.le_of_lt H2.out.1.lt)) hb3) (And.intro (H2.out.2.2.2.1.below hb3) (below_then H2.out.2.2.2.2 hb3))))))
    have hgp3 : gp < w3.heap.size := Nat.lt_of_lt_of_le hgp (Nat.le_trans (Nat.le_of_lt H2.out.1.lt) hb3.size)
    clear hown3 hb3 H2 HVL HVV
    refine Lib.hid ?_
    go_wp2_with (go_at_call 10; refine (readings_any _ _ _ _ hsm (HB2.out _ H3.out.2.2.2.2.2)).mono ?_; rintro e w4 ⟨vr, R, rfl, hR1, hR9, HRG, hown4, hb4⟩; refine Hid.out ?_)
    obtain ⟨gr, cr, rfl, _, _, _⟩ := own_atI hown4 (k := 0) (by omega)
    have hcr : R.length ≤ cr := own_le hown4
    have hRv : allV R = true := rdg_val HRG.out
    have H4 := Lib.hid (And.intro (H3.out.1.kept (grown_below hb4 none) (by cases av <;> simp [Value.ownBlock])) (And.intro (H3.out.2.1.below hb4) (And.intro (H3.out.2.2.1.below hb4) (And.intro (rng_below H3.out.2.2.2.1 hgp3 hb4) (And.intro (H3.out.2.2.2.2.1.below hb4) (And.intro (below_then H3.out.2.2.2.2.2 hb4) hown4))))))
    have hgp4 : gp < w4.heap.size := Nat.lt_of_lt_of_le hgp3 hb4.size
    have hRI : (R.length : Int) ≤ 1048576 := by omega
    clear hown4 hb4 H3
    refine Lib.hid ?_
    obtain ⟨x, hx⟩ := longIs_ex t.b
    have hbk : IsBlk t.b := hTO.1
    have hnb20 : (nb : Int) ≤ 1048576 := by omega
    have hx3 : 0 ≤ x ∧ x ≤ 3000 := by
      rcases hx with ⟨_, h⟩ | ⟨_, h⟩
      · exact runs_small hbk h (Nat.le_refl _)
      · exact absurd hbk h
    obtain ⟨t9, T, ht9, hTA⟩ := taskAt_ex (j := 0) (Y := R) hIP hvok hRv (by omega)
    obtain rfl : t9 = t := by rw [ht] at ht9; exact (Option.some.inj ht9).symm
    obtain ⟨r, E, hE⟩ := effIs_ex P V R 0
    have hLE := eff_longest (j := 0) hTA hE hx
    obtain rfl := hLE.1
    have HLE := Lib.hid hLE.2
    have HE := Lib.hid hE
    have hEb : 0 ≤ E.U ∧ E.U ≤ 3000 := by
      have h1 := (hE.at hTA).2
      have h2 := hTA.small (listSrc R)
      rw [h1]; simp only [effOf]; omega
    have q0 : w4.cell? ⟨gp, 0, none⟩ = some (.slice (some ⟨gb, 0, none⟩) nb cb) := by have h := (range4 H4.out.2.2.2.1).1; simpa using h
    have c0 : w4.cell? ⟨w1.heap.size, 0, none⟩ = some (.slice (some ⟨gp, 0, none⟩) n c) := H4.out.2.1.cell 0
    have hn0 : (0 : Int) < n := by omega
    have HLX := Lib.hid hx
    clear hE hLE hx hTA ht9
    go_wp2_with (go_at_call 11; (with_reducible refine (impl_longestrun (some ⟨gb, 0, none⟩) nb cb t9.b hnb20 hbc _ H4.out.2.2.2.2.1 x HLX.out).mono ?_); rintro e w5 ⟨rfl, hb5⟩; refine Hid.out ?_)
    have H5 := Lib.hid (And.intro (H4.out.1.kept (grown_below hb5 none) (by cases av <;> simp [Value.ownBlock])) (And.intro (H4.out.2.1.below hb5) (And.intro (H4.out.2.2.1.below hb5) (And.intro (H4.out.2.2.2.2.1.below hb5) (And.intro (below_then H4.out.2.2.2.2.2.1 hb5) (H4.out.2.2.2.2.2.2.kept (grown_below hb5 none) (by simp [Value.ownBlock])))))))
    clear hb5 q0 c0
    refine Lib.hid ?_
    go_wp2_with (first
      | (refine wpList_load_row rfl 26 _ rfl w1.heap.size rfl _ _ _ _ H5.out.2.1 Try.underlying26 rfl (by kernel_rfl) ?_)
      | (go_at_call 12; (with_reducible refine (impl_taskeffect (some ⟨gp, 0, none⟩) n c P HSZ.out hnc _ H5.out.2.2.1 av 8 cv V (by decide) hcv (Row.of_own H5.out.1) (some ⟨gr, 0, none⟩) R.length cr R hRI hcr (Row.of_own H5.out.2.2.2.2.2) 0 true E HE.out).mono ?_); rintro e w6 ⟨a1, m1, k1, a2, m2, k2, rfl, hm, hb6⟩; refine Hid.out ?_))
    have hm2 : E.S.length = m2 := own_len hm.2.1
    have HL2 := Lib.hid (show (m2 : Int) + E.U ≤ x by have := HLE.out; omega)
    have H6 := Lib.hid (And.intro (H5.out.2.2.2.1.below hb6) (below_then H5.out.2.2.2.2.1 hb6))
    clear hm hb6
    have HA6 := Lib.hid (And.intro (Box.new w6 zero4E 37) (below_new w6 (.cells zero4E 37)))
    refine Lib.hid ?_
    go_wp2_with ((refine wpList_store_box rfl 37 _ _ rfl w6.heap.size _ _ HA6.out.1 #[.slice a1 m1 k1, .slice a2 m2 k2, .int .i64 E.N, .int .i64 E.U] rfl rfl rfl (by kernel_rfl) (by simp [Value.oneCell']) ?_); intro w7 hx7 hg7; refine Hid.out ?_)
    have hb7 : Below w6.heap.size w6 w7 := HA6.out.2.grown hg7 HA6.out.2.size (fun j hj => by cases hj; exact Nat.le_refl _)
    have k1' : w7.cell? ⟨w6.heap.size, 1, none⟩ = some (.slice a2 m2 k2) := hx7.cell 1
    have k3' : w7.cell? ⟨w6.heap.size, 3, none⟩ = some (.int .i64 E.U) := hx7.cell 3
    have H7 := Lib.hid (And.intro (H6.out.1.below hb7) (below_then H6.out.2 hb7))
    have hgt : decide (x < (m2 : Int) + E.U) = false := by simp; have := HL2.out; omega
    have hm23 : (m2 : Int) ≤ 3000 := by have := HL2.out; omega
    clear hx7 hg7 hb7
    obtain ⟨s0, hsi, hs0, hs1, hs2⟩ := info_parts stm.infoStmt
    have HNS := Lib.hid (st_news H7.out.1 (below_new w7 (.cells #[] 80)))
    have hsl : (stsC t9.b).length = nb * 6 := by rw [stsC_len, hnb]
    refine Lib.hid ?_
    go_wp2_with (at_builtin; refine wpList_append_own_at _ rfl _ _ 30 rfl w7.heap.size 80 s0 _ 6 48 Try.underlying30 hsi hs0 hs1 hs2 rfl (by decide) _ _ _ rfl (made_ats w7 w7.heap.size w7.heap.size rfl (Nat.le_refl _) _ 6) ⟨gb, 0, none⟩ nb cb (stsC t9.b) rfl hsl HNS.out (sts_one t9.b) (by unfold maxLen; omega) (by omega) (by simp) ?_; intro v8 w8 hown8 hgrow8 _ hat8; refine Hid.out ?_)
    rw [Nat.zero_add, List.nil_append] at hown8
    have hb8 : Below w7.heap.size w7 w8 := (below_new w7 (.cells #[] 80)).grown hgrow8 (by simp) (fun k hk => by cases hk; exact Nat.le_refl _)
    have HNS2 := Lib.hid (st_news H7.out.1 hb8)
    have H8 := Lib.hid (And.intro hown8 (below_then H7.out.2 hb8))
    have hs8 := hb8.size
    clear hown8 hgrow8 hat8 hb8 HNS
    refine Lib.hid ?_
    go_wp2_with (at_builtin; refine wpList_append_own_at _ rfl _ _ 30 rfl w7.heap.size 80 s0 _ 6 48 Try.underlying30 hsi hs0 hs1 hs2 rfl (by decide) _ _ _ rfl H8.out.1 ⟨gb, 0, none⟩ nb cb (stsC t9.b) rfl hsl HNS2.out (sts_one t9.b) (by unfold maxLen; omega) (by omega) hs8 ?_; intro v9 w9 hown9 hgrow9 _ hat9; refine Hid.out ?_)
    have hb9 : Below w8.heap.size w8 w9 ∨ True := .inr trivial
    have hB9 : Below w.heap.size w w9 := H8.out.2.grown hgrow9 H8.out.2.size (fun k hk => Nat.le_trans H7.out.2.size (H8.out.1.lt k hk).1)
    obtain ⟨ad9, cp9, rfl⟩ := own_slice9 hown9
    rw [← stsC_app] at hown9
    have H9 := Lib.hid (And.intro hown9 hB9)
    clear hown9 hgrow9 hat9 hB9 hb9
    refine Lib.hid ?_
    by_cases h24 : (24 : Int) < ((nb + nb : Nat) : Int)
    · have h24d : decide ((24 : Int) < ((nb + nb : Nat) : Int)) = true := by simpa using h24
      push_cast at h24 h24d
      go_wp2
      go_ret
      exact ⟨rfl, H9.out.2⟩
    · have hl24 : nb + nb ≤ 24 := by omega
      have h24d : decide ((24 : Int) < (nb : Int) + nb) = false := by simp; omega
      have h24e : ¬ (24 : Int) < (nb : Int) + nb := by omega
      obtain ⟨y, hy⟩ := longIs_ex (t9.b ++ t9.b)
      obtain rfl := long_app hbk hbk (by omega) HLX.out HLX.out hy
      have HY := Lib.hid hy
      have hle9 := own_le H9.out.1
      have h2x : 2 * x = x + x := by omega
      clear hy h24
      go_wp2_with (go_at_call 11; (with_reducible refine (impl_longestrun ad9 (nb + nb) cp9 (t9.b ++ t9.b) (by omega) hle9 _ (StRow.of_own H9.out.1) (x + x) HY.out).mono ?_); rintro e w10 ⟨rfl, hb10⟩; refine Hid.out ?_)
      have HB10 := Lib.hid (below_then H9.out.2 hb10)
      clear hb10
      refine Lib.hid ?_
      go_wp2
      go_ret
      exact ⟨rfl, HB10.out⟩

/-! ### THE ROW's STEP: WRITTEN OUT: LEAVE IT -/
set_option maxRecDepth 100000 in
theorem lifted (os : Os) (started : os.Started) (H : Type) (enc : TypeId × Value → H) :
    ReturnsInHanded {} Try.checked os 3 .any (Rows.fnLongestSpec.pre6 enc Try.prog Try.f3 Rows.fnLongestRow.domain false) (Rows.fnLongestSpec.post enc Try.prog Try.f3 false true false false) := by
  refine returnsInHanded_of_change (C := Try.checked) own started (by kernel_rfl) Try.func3
    (ChangeSpec.witness6 (enc := enc) (C := Try.checked) false ⟨#[], #[.slice none 0 0], []⟩ 8 (by kernel_rfl) (by kernel_rfl) (by kernel_rfl) (by kernel_rfl)) ?_
  intro W base args ds gs before hval0 hW hcnd _
  have hval : ∀ (j : Nat) t v, Try.f3.params[j]? = some t → args[j]? = some v → Value.okWide Try.prog W .any base t v := hval0
  have hW' := hW
  obtain ⟨p, q, hA0, hV, rfl, hfz, hnd⟩ := hW
  have hA : DataW.TrodAll enc Try.prog W 0 (fun _ => true) true Try.f3.params.toList args.toList ds p := hA0
  rw [Try.params3] at hA hval
  obtain ⟨v0, vs0, d0, ds0, p0, q0, hargs, rfl, rfl, h0, r0⟩ := trodAll_cons hA
  obtain ⟨rfl, rfl, rfl⟩ := trodAll_nil r0
  obtain rfl : args = #[v0] := by cases args; simp_all
  obtain ⟨rfl, rfl⟩ := trodVars_none hV
  obtain ⟨a0, len0, cap0, rfl⟩ := okWide_slice Try.underlying22 (hval 0 22 v0 rfl rfl)
  have k0 := h0
  have lt0 : ∀ x ∈ p0, x.block < W.heap.size := by obtain ⟨m, hm⟩ := k0; exact DataW.trod_lt m _ _ _ hm
  obtain ⟨z0, w0⟩ : ∃ zs, IsRow .u8 W a0 len0 cap0 zs := by
    obtain ⟨fuel, hf⟩ := h0
    rcases open_ints Try.underlying22 Try.underlying5 (by kernel_rfl) hf with ⟨hcs, _⟩ | ⟨x, l, c, zs, hcs, _, hl, hm, hz, _, hcell, hwz⟩
    · simp [Value.cells] at hcs
      obtain ⟨rfl, rfl, rfl⟩ := hcs
      exact ⟨[], .inl ⟨rfl, rfl, rfl, rfl⟩⟩
    · simp [Value.cells] at hcs
      obtain ⟨rfl, rfl, rfl⟩ := hcs
      exact ⟨zs, .inr ⟨_, rfl, hl, hm, by simpa using hz, hcell, hwz⟩⟩
  clear hA0 hval0
  refine (walk a0 len0 cap0 z0 W w0).mono fun e W' ⟨he, bel⟩ => ?_
  subst he
  exact ⟨_, rfl, _, _, _, [], _, [], hW', trodAll_mk1 (shut_bool Try.underlying4 _), (trodAll_cons_mk (Below.trod laidOut (by kernel_rfl) (of_decide_eq_true (by kernel_rfl)) k0 bel lt0) trodAll_mk0), rfl, bel.frame _, fun h => by cases h⟩

theorem over : Rows.fnLongestRow.holds Try.pinned (OpenSpec.ofChange Rows.fnLongestSpec) :=
  OpenClaim.holds_of_wide 3 Try.f3 rfl rfl rfl rfl rfl rfl rfl ⟨rfl, rfl, rfl, rfl, rfl⟩ rfl rfl rfl rfl rfl (by kernel_rfl) Try.func3 (by kernel_rfl)
    (of_decide_eq_true (by kernel_rfl)) (by unfold Func.isWrapper; first | (rw [if_pos (by decide +kernel)]; kernel_rfl) | (rw [if_neg (by decide +kernel)]; exact ⟨rfl, rfl⟩))
    (fun os started H enc _ => lifted os started H enc)

/-- ████ THE STATEMENT ████ -/
theorem proved : Rows.FnLongestSaid := over
#print axioms proved
end Go.Proofs.Ytekdnhhmiabngaa.fnLongest
