/- For every input the law FnRefParts returns true and leaves its argument as it was; no condition. -/
import Derived.Test.YtekdnhhmiabngaaRows
import Derived.WalkKit
import Derived.ProofKit
import Derived.OpenShut
import Derived.ShutString
import Derived.ChangeOld
import Derived.Below
import Derived.Test.YtekdnhhmiabngaaGHub33
import Derived.Test.YtekdnhhmiabngaaGHub35
import Derived.Test.YtekdnhhmiabngaaGHub39
import Derived.Test.YtekdnhhmiabngaaGHub36
import Derived.Test.YtekdnhhmiabngaaGHub34
import Derived.Test.YtekdnhhmiabngaaGHub0
import Derived.Test.YtekdnhhmiabngaaGHub16
import Derived.Test.YtekdnhhmiabngaaGHub22
import Derived.Test.YtekdnhhmiabngaaGHub29
import Derived.Test.YtekdnhhmiabngaaGHub18
import Derived.Test.YtekdnhhmiabngaaGHub40
import Derived.Deep.RegionHeld3
import Derived.Deep.RegionLaw
import Derived.Deep.AppendLies
namespace Go.Proofs.Ytekdnhhmiabngaa.fnRefParts
open Go.ChangeShapes Go.WideShapes Go.ChangeAt Go.RowKit
open Go.ChangeMaps (open_string shut_string)
set_option linter.unusedVariables false

theorem own : ownKnob Try.prog.godebug = none := by kernel_rfl
theorem laidOut : laidOutB Try.prog = true := by kernel_rfl

/-- WHAT THE WALK IS TOLD OF A SLICE OF INTEGERS THAT CAME IN: it is nil; or it leads to a row of 'cap' cells, the numbers 'zs' (the first 'len' are its elements, the rest its spare room), each fitting its kind. -/
def IsRow (k : IntKind) (w : World) (a : Option Addr) (len cap : Nat) (zs : List Int) : Prop :=
  (a = none ∧ len = 0 ∧ cap = 0 ∧ zs = []) ∨
  ∃ x, a = some x ∧ len ≤ cap ∧ cap ≤ maxLen ∧ zs.length = cap ∧ (∀ i, i < zs.length → w.cell? (x.add i) = some (.int k (zs.getD i 0))) ∧ ∀ n ∈ zs, (Lit.int k n).wf = true

open Go.Proofs.Ytekdnhhmiabngaa.row Go.Proofs.Ytekdnhhmiabngaa.val Go.Proofs.Ytekdnhhmiabngaa.expr Go.Proofs.Ytekdnhhmiabngaa.stm Go.Proofs.Ytekdnhhmiabngaa.cur Go.Proofs.Ytekdnhhmiabngaa.blk Go.Proofs.Ytekdnhhmiabngaa.prg Go.Proofs.Ytekdnhhmiabngaa.exe Go.Proofs.Ytekdnhhmiabngaa.srow Go.Proofs.Ytekdnhhmiabngaa.ref Go.Proofs.Ytekdnhhmiabngaa.aps
theorem rng_below {w w' : World} {g o : Nat} {cs : List Value} (h : w.rangeAt g o cs) (hg : g < w.heap.size) (hb : Below w.heap.size w w') : w'.rangeAt g o cs := fun j v hj => (hb.cell (p := ⟨g, o + j, none⟩) hg).trans (h j v hj)
theorem sizes_drawn {P : List Tk} (hl : P.length ≤ 3) (h : ∀ t ∈ P, TkOk t) : Sizes P := ⟨by omega, fun t ht => by have := (h t ht).2.1; omega⟩
theorem prg_drawn {P : List Tk} (h1 : 1 ≤ P.length) (hl : P.length ≤ 3) (h : ∀ t ∈ P, TkOk t) : IsPrg P := ⟨h1, by omega, fun t ht => ⟨(h t ht).1, (h t ht).2.2⟩⟩
theorem rdg_val {R : List Int} (h : RdgIn R) : allV R = true := (allV_iff R).2 fun q hq => by have := h q hq; exact isVal_in (by omega) (by omega)
theorem sizes_used {LL : List (List Int)} (hl : LL.length ≤ 4) (h : ∀ L ∈ LL, RdgIn L ∧ L.length ≤ 9) : SSizes LL := ⟨by omega, fun t ht => by have := (h t ht).2; omega⟩
theorem rdg_all {LL : List (List Int)} (h : ∀ L ∈ LL, RdgIn L ∧ L.length ≤ 9) : ∀ u ∈ LL, allV u = true := fun u hu => (allV_iff u).2 fun q hq => by have := (h u hu).1 q hq; exact isVal_in (by omega) (by omega)
theorem ss_take {LL : List (List Int)} (h : SSizes LL) (k : Nat) : SSizes (LL.take k) := ⟨by rw [List.length_take]; have := h.1; omega, fun t ht => h.2 t (List.mem_of_mem_take ht)⟩
theorem ss_drop {LL : List (List Int)} (h : SSizes LL) (k : Nat) : SSizes (LL.drop k) := ⟨by rw [List.length_drop]; have := h.1; omega, fun t ht => h.2 t (List.mem_of_mem_drop ht)⟩
theorem ne_own9 {v : Value} {a b g : Nat} (h : ∀ q, v.ownBlock = some q → a ≤ q ∧ q < b) (hg : g < a ∨ b ≤ g) : v.ownBlock = none ∨ v.ownBlock ≠ some g := by
  cases hq : v.ownBlock with
  | none => exact .inl rfl
  | some q => right; intro e; have := h q hq; have := Option.some.inj e; omega
set_option maxHeartbeats 8000000 in
set_option maxRecDepth 100000 in
theorem walk (a0 : Option Addr) (len0 cap0 : Nat) (z0 : List Int) (w : World) (w0 : IsRow .u8 w a0 len0 cap0 z0) :
    Calls Try.prog 5 #[.slice a0 len0 cap0] w fun e w' => e = .returned (.bool true) ∧ Below w.heap.size w w' := by
  obtain ⟨i0, hi, hz0, hz1, hz2⟩ := info_parts row.infoInt
  have HB : Hid (∀ i : Nat, i < len0 → ∃ (b off : Nat) (v : Int), a0 = some ⟨b, off, none⟩ ∧ w.cell? ⟨b, off + i, none⟩ = some (.int .u8 v)) := by
    intro i hi
    rcases w0 with ⟨_, h0, _⟩ | ⟨x, rfl, hl, _, hz, hcell, _⟩
    · omega
    · obtain ⟨b, off, rfl, hc⟩ := ints_at hcell (by omega)
      exact ⟨b, off, _, rfl, hc i (by omega)⟩
  have HB2 : Hid (∀ w1 : World, Below w.heap.size w w1 → ∀ i : Nat, i < len0 → ∃ (b off : Nat) (v : Int), a0 = some ⟨b, off, none⟩ ∧ w1.cell? ⟨b, off + i, none⟩ = some (.int .u8 v)) := by
    intro w1 hb1 i hi
    obtain ⟨b, off, v, ha, hv⟩ := HB.out i hi
    exact ⟨b, off, v, ha, (hb1.cell (World.block_lt_of_cell? w _ hv)).trans hv⟩
  clear w0
  by_cases hbig : (1048576 : Int) < len0
  · go_enter Try.func5, Try.ntmps5
    go_wp2_with (go_at_call 7; refine (big_yes _ _ _ _ hbig).mono ?_; rintro e w1 ⟨rfl, rfl⟩)
    go_ret
    exact ⟨rfl, Below.refl _ _⟩
  · have hsm : (len0 : Int) ≤ 1048576 := by omega
    clear hbig
    go_enter Try.func5, Try.ntmps5
    go_wp2_with (first
      | (go_at_call 7; refine (big_no _ _ _ _ hsm).mono ?_; rintro e w1 ⟨rfl, rfl⟩)
      | (go_at_call 8; refine (drawprogram_any _ _ _ _ hsm HB.out).mono ?_; rintro e w1 ⟨ad, n, c, P, rfl, hn1, hn3, hnc, HOK, HR, hb1⟩; refine Hid.out ?_))
    have HA1 := Lib.hid (And.intro (Box.new w1 #[.slice none 0 0] 26) (below_new w1 (.cells #[.slice none 0 0] 26)))
    obtain ⟨gp, t, gb, nb, cb, rfl, _, hgp, ht, hrg, hbc, _, hrow⟩ := HR.out.2 0 (by omega)
    have hPl : P.length = n := HR.out.1
    have HB1 := Lib.hid (And.intro hb1 (And.intro HR.out.row (And.intro hrg hrow)))
    have hIP : IsPrg P := prg_drawn (by omega) (by omega) HOK.out
    have HSZ := Lib.hid (sizes_drawn (show P.length ≤ 3 by omega) HOK.out)
    have hTO := HOK.out t (List.mem_of_getElem? ht)
    have hnb : t.b.length = nb := hrow.1
    have hnbI : (nb : Int) ≤ 20 := by have := hTO.2.1; omega
    clear hb1 HR hrg hrow
    refine Lib.hid ?_
    go_wp2_with ((refine wpList_store_box rfl 26 _ _ rfl w1.heap.size _ _ HA1.out.1 #[.slice (some ⟨gp, 0, none⟩) n c] rfl rfl rfl (by kernel_rfl) (by simp [Value.oneCell']) ?_); intro w2 hx2 hg2; refine Hid.out ?_)
    have hb2 : Below w1.heap.size w1 w2 := HA1.out.2.grown hg2 HA1.out.2.size (fun j hj => by cases hj; exact Nat.le_refl _)
    have H2 := Lib.hid (And.intro hx2 (And.intro (HB1.out.2.1.below hb2) (And.intro (rng_below HB1.out.2.2.1 hgp hb2) (And.intro (HB1.out.2.2.2.below hb2) (below_then HB1.out.1 hb2)))))
    clear hx2 hg2 hb2 HA1 HB1
    refine Lib.hid ?_
    go_wp2_with (go_at_call 9; refine (vars_any _ _ _ _ hsm (HB2.out _ H2.out.2.2.2.2)).mono ?_; rintro e w3 ⟨av, cv, V, rfl, HVL, HVV, hown3, hb3⟩; refine Hid.out ?_)
    have hvok : varsOk V = true := (varsOk_iff V).2 ⟨HVL.out, HVV.out⟩
    have hcv : 8 ≤ cv := own_le hown3
    have H3 := Lib.hid (And.intro hown3 (And.intro (H2.out.1.below hb3) (And.intro (H2.out.2.1.below hb3) (And.intro (rng_below H2.out.2.2.1 (Nat.lt_of_lt_of_le hgp (Nat.le_of_lt H2.out.1.lt)) hb3) (And.intro (H2.out.2.2.2.1.below hb3) (below_then H2.out.2.2.2.2 hb3))))))
    have hgp3 : gp < w3.heap.size := Nat.lt_of_lt_of_le hgp (Nat.le_trans (Nat.le_of_lt H2.out.1.lt) hb3.size)
    clear hown3 hb3 H2 HVL HVV
    refine Lib.hid ?_
    go_wp2_with (go_at_call 16; refine (used_any _ _ _ _ hsm (HB2.out _ H3.out.2.2.2.2.2)).mono ?_; rintro e w4 ⟨gu, nu, cu, UU, rfl, hnc4, hn4, hgu, HUI, HUR, hb4⟩; refine Hid.out ?_)
    have hul : UU.length = nu := HUR.out.1
    have HUS := Lib.hid (sizes_used (by omega) HUI.out)
    have HUV := Lib.hid (rdg_all HUI.out)
    have HSD := Lib.hid (show Sound P V 0 from ⟨hIP, hvok, Int.le_refl _, by omega⟩)
    have HROK := Lib.hid (show RefOk P V UU 0 from ⟨HSD.out, by omega, HUV.out⟩)
    have hnuI : (nu : Int) ≤ 4 := by omega
    have H4 := Lib.hid (And.intro (Row.of_own (H3.out.1.kept (grown_below hb4 none) (by cases av <;> simp [Value.ownBlock]))) (And.intro (H3.out.2.1.below hb4) (And.intro (H3.out.2.2.1.below hb4) (And.intro HUR.out (below_then H3.out.2.2.2.2.2 hb4)))))
    clear hb4 H3 HUI HUR hTO ht hgp hgp3 hbc hnb hnbI
    refine Lib.hid ?_
    go_wp2_with (go_at_call 13; refine (places_any _ _ _ _ hsm (HB2.out _ H4.out.2.2.2.2)).mono ?_; rintro e w5 ⟨v5, Z, rfl, hl, HZ, hown5, hb5⟩; refine Hid.out ?_)
    obtain ⟨g5, c5, rfl, hbg5, hlg5, x0, hx0, hcx0⟩ := own_atI hown5 (k := 0) (by omega)
    have hx0' := HZ.out x0 (List.mem_of_getElem? hx0)
    have hne0 : (nu : Int) + 1 ≠ 0 := by omega
    have hk0 := Int.emod_nonneg x0 hne0
    have hk1 := Int.emod_lt_of_pos x0 (show (0 : Int) < nu + 1 by omega)
    obtain ⟨k, hk⟩ : ∃ k : Nat, x0 % ((nu : Int) + 1) = k := ⟨(x0 % ((nu : Int) + 1)).toNat, (Int.toNat_of_nonneg hk0).symm⟩
    have hkn : k ≤ nu := by omega
    have htm : x0.tmod ((nu : Int) + 1) = k := by rw [Int.tmod_eq_emod_of_nonneg hx0'.1]; exact hk
    have H5 := Lib.hid (And.intro (H4.out.1.below hb5) (And.intro (H4.out.2.1.below hb5) (And.intro (H4.out.2.2.1.below hb5) (And.intro (H4.out.2.2.2.1.below hb5) (below_then H4.out.2.2.2.2 hb5)))))
    obtain ⟨RA, hRA⟩ := runR_ex UU ⟨V, [], 0⟩ HSD.out HUV.out
    obtain ⟨RB, hRB⟩ := runR_ex (UU.take k) ⟨V, [], 0⟩ HSD.out (fun u hu => HUV.out u (List.mem_of_mem_take hu))
    have hsA := hRA.sound HSD.out HUV.out
    have hsB := hRB.sound HSD.out (fun u hu => HUV.out u (List.mem_of_mem_take hu))
    obtain ⟨RC, hRC⟩ := runR_ex (UU.drop k) ⟨RB.V, [], RB.T⟩ hsB.1 (fun u hu => HUV.out u (List.mem_of_mem_drop hu))
    have hsC := hRC.sound hsB.1 (fun u hu => HUV.out u (List.mem_of_mem_drop hu))
    have HPA := Lib.hid (parts hRA hRB hRC (hsB.2 (by simp)))
    have HRA := Lib.hid (show RefIs P V UU 0 true RA from .inr ⟨rfl, HROK.out, hRA⟩)
    have HRB := Lib.hid (show RefIs P V (UU.take k) 0 true RB from .inr ⟨rfl, ⟨HSD.out, by rw [List.length_take]; omega, fun u hu => HUV.out u (List.mem_of_mem_take hu)⟩, hRB⟩)
    have HRC := Lib.hid (show RefIs P RB.V (UU.drop k) RB.T true RC from .inr ⟨rfl, ⟨hsB.1, by rw [List.length_drop]; omega, fun u hu => HUV.out u (List.mem_of_mem_drop hu)⟩, hRC⟩)
    have hzA := HRA.out.size
    have hzB := HRB.out.size
    have hzC := HRC.out.size
    clear hRA hRB hRC hsA hsB hsC hown5 hb5 H4 hk0 hk1 hk
    refine Lib.hid ?_
    go_wp2_with (first
      | (refine wpList_load_row rfl 26 _ rfl w1.heap.size rfl _ _ _ _ H5.out.2.1 Try.underlying26 rfl (by kernel_rfl) ?_)
      | (go_at_call 17; (with_reducible refine (impl_refrun (some ⟨gp, 0, none⟩) n c P HSZ.out hnc _ H5.out.2.2.1 av 8 cv V (by decide) hcv H5.out.1 (some ⟨gu, 0, none⟩) nu cu UU HUS.out hnc4 H5.out.2.2.2.1 0 true RA HRA.out).mono ?_); rintro e w6 ⟨a1, n1, d1, a2, n2, d2, rfl, hm, hb6⟩; refine Hid.out ?_))
    have hvl : RA.V.length = n1 := own_len hm.1
    have hsl : RA.S.length = n2 := own_len hm.2.1
    have hn1 : (n1 : Int) ≤ 1048576 := by omega
    have hn2 : (n2 : Int) ≤ 1048576 := by omega
    have hA6 := Box.new w6 zero3R 45
    have hB6 := below_new w6 (.cells zero3R 45)
    have H6 := Lib.hid (And.intro hA6 (And.intro hB6 (And.intro (H5.out.1.below hb6) (And.intro (H5.out.2.1.below hb6) (And.intro (H5.out.2.2.1.below hb6) (And.intro (H5.out.2.2.2.1.below hb6) (And.intro (below_then H5.out.2.2.2.2 hb6) (And.intro (Row.of_own hm.1) (Row.of_own hm.2.1)))))))))
    clear hm hb6 hA6 hB6 H5
    refine Lib.hid ?_
    go_wp2_with ((refine wpList_store_box rfl 45 _ _ rfl w6.heap.size _ _ H6.out.1 #[.slice a1 n1 d1, .slice a2 n2 d2, .int .i64 RA.T] rfl rfl rfl (by kernel_rfl) (by simp [Value.oneCell']) ?_); intro w7 hx7 hg7; refine Hid.out ?_)
    have hb7 : Below w6.heap.size w6 w7 := H6.out.2.1.grown hg7 H6.out.2.1.size (fun j hj => by cases hj; exact Nat.le_refl _)
    have H7 := Lib.hid (And.intro hx7 (And.intro (H6.out.2.2.1.below hb7) (And.intro (H6.out.2.2.2.1.below hb7) (And.intro (H6.out.2.2.2.2.1.below hb7) (And.intro (H6.out.2.2.2.2.2.1.below hb7) (And.intro (below_then H6.out.2.2.2.2.2.2.1 hb7) (And.intro (H6.out.2.2.2.2.2.2.2.1.below hb7) (H6.out.2.2.2.2.2.2.2.2.below hb7))))))))
    obtain ⟨gA, hgA⟩ : ∃ g, w6.heap.size = g := ⟨_, rfl⟩
    rw [hgA] at H7 ⊢
    clear hx7 hg7 hb7 H6 hgA
    have HD := Lib.hid (show Below w7.heap.size w7 w7.drew from Below.drew (Below.refl _ w7))
    have hpl : w1.heap.size < w7.heap.size := H7.out.2.2.1.lt
    have KEEP := Lib.hid (show ∀ w', Below w7.heap.size w7 w' → w'.cell? ⟨w1.heap.size, 0, none⟩ = some (.slice (some ⟨gp, 0, none⟩) n c) from fun w' hb => (hb.cell (p := ⟨w1.heap.size, 0, none⟩) hpl).trans (H7.out.2.2.1.cell 0))
    have hkcu : k ≤ cu := by omega
    have hcut := cut_hS gu nu cu k hkcu
    have HEF := Lib.hid (show ∀ w', Below w7.heap.size w7 w' → Calls Try.prog 17 #[.agg #[.slice (some ⟨gp, 0, none⟩) n c], .int .i64 0, .slice av 8 cv, .slice (some ⟨gu, 0, none⟩) k cu] w' (NewRefB w' true RB) from fun w' hb =>
      impl_refrun (some ⟨gp, 0, none⟩) n c P HSZ.out hnc w' (H7.out.2.2.2.1.below hb) av 8 cv V (by decide) hcv (H7.out.2.1.below hb) (some ⟨gu, 0, none⟩) k cu (UU.take k) (ss_take HUS.out k) hkcu ((H7.out.2.2.2.2.1.below hb).head (by omega)) 0 true RB HRB.out)
    refine Lib.hid ?_
    go_wp2
    refine wp_region_held_drew (S := (fun w' => w'.cell? ⟨w1.heap.size, 0, none⟩ = some (.slice (some ⟨gp, 0, none⟩) n c))) (by kernel_rfl) (KEEP.out _ HD.out) (fun hHeld => ?_)
    obtain ⟨y0, hy0⟩ : ∃ z, w7.drew = z := ⟨_, rfl⟩
    have hb0 : Below w7.heap.size w7 y0 := by rw [← hy0]; exact HD.out
    rw [hy0] at hHeld ⊢
    clear hy0
    refine wpAnyH_take (i := 0) (v := .agg #[.slice (some ⟨gp, 0, none⟩) n c]) rfl (by kernel_rfl) (by kernel_rfl) (by kernel_rfl) (fun _ _ _ h => h) (Or.inl ⟨by rfl, (by intro w' hSw; (try dsimp only at hSw); go_simp)⟩) (by assumption) ?_
    try simp only [Act.put, List.getElem_toArray, List.getElem_cons_zero, List.setIfInBounds_toArray, List.set_cons_zero, List.set_cons_succ]
    refine wpAnyH_take (i := 1) (v := .slice av 8 cv) rfl (by kernel_rfl) (by kernel_rfl) (by kernel_rfl) (fun _ _ _ h => h) (Or.inl ⟨by rfl, (by intro w' hSw; (try dsimp only at hSw); go_simp)⟩) (by assumption) ?_
    try simp only [Act.put, List.getElem_toArray, List.getElem_cons_zero, List.getElem_cons_succ, List.setIfInBounds_toArray, List.set_cons_zero, List.set_cons_succ]
    refine wpAnyH_take (i := 2) (v := .slice (some ⟨gu, 0, none⟩) nu cu) rfl (by kernel_rfl) (by kernel_rfl) (by kernel_rfl) (fun _ _ _ h => h) (Or.inl ⟨by rfl, (by intro w' hSw; (try dsimp only at hSw); go_simp)⟩) (by assumption) ?_
    try simp only [Act.put, List.getElem_toArray, List.getElem_cons_zero, List.getElem_cons_succ, List.setIfInBounds_toArray, List.set_cons_zero, List.set_cons_succ]
    refine wpAnyH_take (i := 3) (v := .int .i64 (k : Int)) rfl (by kernel_rfl) (by kernel_rfl) (by kernel_rfl) (fun _ _ _ h => h) (Or.inl ⟨by rfl, (by intro w' hSw; (try dsimp only at hSw); go_simp)⟩) (by assumption) ?_
    try simp only [Act.put, List.getElem_toArray, List.getElem_cons_zero, List.getElem_cons_succ, List.setIfInBounds_toArray, List.set_cons_zero, List.set_cons_succ]
    refine wpAnyH_take (i := 4) (v := .slice (some ⟨gu, 0, none⟩) k cu) rfl (by kernel_rfl) (by kernel_rfl) (by kernel_rfl) (fun _ _ _ h => h) (Or.inl ⟨by rfl, (by intro w' hSw; (try dsimp only at hSw); go_simp)⟩) (by assumption) ?_
    try simp only [Act.put, List.getElem_toArray, List.getElem_cons_zero, List.getElem_cons_succ, List.setIfInBounds_toArray, List.set_cons_zero, List.set_cons_succ]
    clear hcut
    refine wpAnyH_ready (rs := [5, 9]) (by kernel_rfl) (by simp) ?_
    refine AllReadyH.cons rfl (fun K hK => ?_) ?_
    rw [if_pos (by kernel_rfl)]
    go_simp
    go_at_call 17
    refine (HEF.out y0 hb0).mono ?_
    rintro e y1 ⟨e1, m1, k1, e2, m2, k2, rfl, hm, hbc⟩
    have hb1 : Below w7.heap.size w7 y1 := below_then hb0 hbc
    refine hK.out _ _ (KEEP.out _ hb1) (fun hHeld1 => ?_)
    clear hK K hHeld
    try simp only [Act.put, List.getElem_toArray, List.getElem_cons_zero, List.getElem_cons_succ, List.setIfInBounds_toArray, List.set_cons_zero, List.set_cons_succ]
    refine wpAnyH_take (i := 6) (v := .tuple #[refV e1 m1 k1 e2 m2 k2 RB, .bool true]) rfl (by kernel_rfl) (by kernel_rfl) (by kernel_rfl) (fun _ _ _ h => h) (Or.inl ⟨by rfl, (by intro w' hSw; (try dsimp only at hSw); go_simp)⟩) (by assumption) ?_
    try simp only [Act.put, List.getElem_toArray, List.getElem_cons_zero, List.getElem_cons_succ, List.setIfInBounds_toArray, List.set_cons_zero, List.set_cons_succ]
    refine wpAnyH_take (i := 7) (v := refV e1 m1 k1 e2 m2 k2 RB) rfl (by kernel_rfl) (by kernel_rfl) (by kernel_rfl) (fun _ _ _ h => h) (Or.inl ⟨by rfl, (by intro w' hSw; (try dsimp only at hSw); go_simp)⟩) (by assumption) ?_
    try simp only [Act.put, List.getElem_toArray, List.getElem_cons_zero, List.getElem_cons_succ, List.setIfInBounds_toArray, List.set_cons_zero, List.set_cons_succ]
    refine wpAnyH_take (i := 8) (v := .bool true) rfl (by kernel_rfl) (by kernel_rfl) (by kernel_rfl) (fun _ _ _ h => h) (Or.inl ⟨by rfl, (by intro w' hSw; (try dsimp only at hSw); go_simp)⟩) (by assumption) ?_
    try simp only [Act.put, List.getElem_toArray, List.getElem_cons_zero, List.getElem_cons_succ, List.setIfInBounds_toArray, List.set_cons_zero, List.set_cons_succ]
    refine wpAnyH_ready (rs := [9]) (by kernel_rfl) (by simp) ?_
    refine AllReadyH.cons rfl (fun K hK => ?_) AllReadyH.nil
    obtain ⟨yn, hyn⟩ : ∃ z, y1.alloc (.cells zero3R 45) = z := ⟨_, rfl⟩
    obtain ⟨gE, hgE⟩ : ∃ g, y1.heap.size = g := ⟨_, rfl⟩
    have hbn : Below w7.heap.size w7 yn := by rw [← hyn]; exact below_then hb1 (below_new _ _)
    have hEn : Box gE zero3R 45 yn := by rw [← hyn, ← hgE]; exact Box.new _ _ _
    have hEln : w7.heap.size ≤ gE := by rw [← hgE]; exact hb1.size
    have hVn := (hm.1.mono hb0.size).alloc (.cells zero3R 45)
    rw [hyn] at hVn
    have hSn := (hm.2.1.mono hb0.size).alloc (.cells zero3R 45)
    rw [hyn] at hSn
    have hapn := hm.2.2
    have hVEn := ne_own9 hm.1.lt (.inr (show y1.heap.size ≤ gE by omega))
    have hSEn := ne_own9 hm.2.1.lt (.inr (show y1.heap.size ≤ gE by omega))
    rw [if_pos (by kernel_rfl)]
    go_simp
    (try rw [hyn])
    (try rw [hgE])
    refine hK.out _ _ (KEEP.out _ hbn) (fun hHeldn => ?_)
    try simp only [Act.put, List.getElem_toArray, List.getElem_cons_zero, List.getElem_cons_succ, List.setIfInBounds_toArray, List.set_cons_zero, List.set_cons_succ]
    clear hK K hyn hgE hHeld1 hm hbc hb1 y1 hb0 y0
    revert hSEn
    revert hVEn
    revert hapn
    revert hSn
    revert hVn
    revert hEln
    revert hEn
    revert hbn
    revert hHeldn
    revert k2
    revert m2
    revert e2
    revert k1
    revert m1
    revert e1
    revert gE
    revert yn
    refine ?stoT
    rotate_left
    refine AllReadyH.cons rfl (fun K hK => ?_) ?_
    obtain ⟨y1, hy1⟩ : ∃ z, y0.alloc (.cells zero3R 45) = z := ⟨_, rfl⟩
    obtain ⟨gE, hgE⟩ : ∃ g, y0.heap.size = g := ⟨_, rfl⟩
    have hb1 : Below w7.heap.size w7 y1 := by rw [← hy1]; exact below_then hb0 (below_new _ _)
    have hE1 : Box gE zero3R 45 y1 := by rw [← hy1, ← hgE]; exact Box.new _ _ _
    have hEln : w7.heap.size ≤ gE := by rw [← hgE]; exact hb0.size
    rw [if_pos (by kernel_rfl)]
    go_simp
    (try rw [hy1])
    (try rw [hgE])
    refine hK.out _ _ (KEEP.out _ hb1) (fun hHeld1 => ?_)
    try simp only [Act.put, List.getElem_toArray, List.getElem_cons_zero, List.getElem_cons_succ, List.setIfInBounds_toArray, List.set_cons_zero, List.set_cons_succ]
    clear hK K hy1 hgE hHeld
    refine wpAnyH_ready (rs := [5]) (by kernel_rfl) (by simp) ?_
    refine AllReadyH.cons rfl (fun K hK => ?_) AllReadyH.nil
    rw [if_pos (by kernel_rfl)]
    go_simp
    go_at_call 17
    refine (HEF.out y1 hb1).mono ?_
    rintro e yn ⟨e1, m1, k1, e2, m2, k2, rfl, hm, hbc⟩
    have hbn : Below w7.heap.size w7 yn := below_then hb1 hbc
    have hEn := hE1.below hbc
    have hVn := hm.1.mono hb1.size
    have hSn := hm.2.1.mono hb1.size
    have hapn := hm.2.2
    have hVEn := ne_own9 hm.1.lt (.inl hE1.lt)
    have hSEn := ne_own9 hm.2.1.lt (.inl hE1.lt)
    refine hK.out _ _ (KEEP.out _ hbn) (fun hHeldn => ?_)
    try simp only [Act.put, List.getElem_toArray, List.getElem_cons_zero, List.getElem_cons_succ, List.setIfInBounds_toArray, List.set_cons_zero, List.set_cons_succ]
    refine wpAnyH_take (i := 6) (v := .tuple #[refV e1 m1 k1 e2 m2 k2 RB, .bool true]) rfl (by kernel_rfl) (by kernel_rfl) (by kernel_rfl) (fun _ _ _ h => h) (Or.inl ⟨by rfl, (by intro w' hSw; (try dsimp only at hSw); go_simp)⟩) (by assumption) ?_
    try simp only [Act.put, List.getElem_toArray, List.getElem_cons_zero, List.getElem_cons_succ, List.setIfInBounds_toArray, List.set_cons_zero, List.set_cons_succ]
    refine wpAnyH_take (i := 7) (v := refV e1 m1 k1 e2 m2 k2 RB) rfl (by kernel_rfl) (by kernel_rfl) (by kernel_rfl) (fun _ _ _ h => h) (Or.inl ⟨by rfl, (by intro w' hSw; (try dsimp only at hSw); go_simp)⟩) (by assumption) ?_
    try simp only [Act.put, List.getElem_toArray, List.getElem_cons_zero, List.getElem_cons_succ, List.setIfInBounds_toArray, List.set_cons_zero, List.set_cons_succ]
    refine wpAnyH_take (i := 8) (v := .bool true) rfl (by kernel_rfl) (by kernel_rfl) (by kernel_rfl) (fun _ _ _ h => h) (Or.inl ⟨by rfl, (by intro w' hSw; (try dsimp only at hSw); go_simp)⟩) (by assumption) ?_
    try simp only [Act.put, List.getElem_toArray, List.getElem_cons_zero, List.getElem_cons_succ, List.setIfInBounds_toArray, List.set_cons_zero, List.set_cons_succ]
    clear hK K hHeld1 hm hbc hE1 hb1 y1 hb0 y0
    revert hSEn
    revert hVEn
    revert hapn
    revert hSn
    revert hVn
    revert hEln
    revert hEn
    revert hbn
    revert hHeldn
    revert k2
    revert m2
    revert e2
    revert k1
    revert m1
    revert e1
    revert gE
    revert yn
    refine ?stoT
    exact AllReadyH.nil
    intro y gE e1 m1 k1 e2 m2 k2 hHeld hb hE hEl hV hS hap hVE hSE
    refine wpAnyH_ready (rs := [10]) (by kernel_rfl) (by simp) ?_
    refine AllReadyH.cons rfl (fun K hK => ?_) AllReadyH.nil
    have z0 : y.cell? ⟨gE, 0, none⟩ = some (.slice none 0 0) := hE.cell 0
    have f0 : y.frozen? ⟨gE, 0, none⟩ = false := hE.frozen 0
    have z1 : y.cell? ⟨gE, 1, none⟩ = some (.slice none 0 0) := hE.cell 1
    have f1 : y.frozen? ⟨gE, 1, none⟩ = false := hE.frozen 1
    have z2 : y.cell? ⟨gE, 2, none⟩ = some (.int .i64 0) := hE.cell 2
    have f2 : y.frozen? ⟨gE, 2, none⟩ = false := hE.frozen 2
    have hgs : y.grownBy (((y.setCell ⟨gE, 0, none⟩ (.slice e1 m1 k1)).setCell ⟨gE, 1, none⟩ (.slice e2 m2 k2)).setCell ⟨gE, 2, none⟩ (.int .i64 RB.T)) (some gE) := grown_trans (grown_trans (grown_setCell _ _ _ _) (grown_setCell _ _ _ _)) (grown_setCell _ _ _ _)
    have hx : Box gE #[.slice e1 m1 k1, .slice e2 m2 k2, .int .i64 RB.T] 45 (((y.setCell ⟨gE, 0, none⟩ (.slice e1 m1 k1)).setCell ⟨gE, 1, none⟩ (.slice e2 m2 k2)).setCell ⟨gE, 2, none⟩ (.int .i64 RB.T)) := ((hE.set 0 _).set 1 _).set 2 _
    obtain ⟨yn, hyn⟩ : ∃ z, (((y.setCell ⟨gE, 0, none⟩ (.slice e1 m1 k1)).setCell ⟨gE, 1, none⟩ (.slice e2 m2 k2)).setCell ⟨gE, 2, none⟩ (.int .i64 RB.T)) = z := ⟨_, rfl⟩
    rw [hyn] at hgs hx
    have hbn : Below w7.heap.size w7 yn := hb.grown hgs hb.size (fun q hq => by cases hq; exact hEl)
    have hVn := hV.kept hgs hVE
    have hSn := hS.kept hgs hSE
    rw [if_pos (by kernel_rfl)]
    go_simp
    (try rw [hyn])
    refine hK.out _ _ (KEEP.out _ hbn) (fun hHeldn => ?_)
    clear hK K hyn z0 z1 z2 f0 f1 f2 hHeld
    try simp only [Act.put, List.getElem_toArray, List.getElem_cons_zero, List.getElem_cons_succ, List.setIfInBounds_toArray, List.set_cons_zero, List.set_cons_succ]
    refine wpAnyH_take (i := 11) (v := .bool true) rfl (by kernel_rfl) (by kernel_rfl) (by kernel_rfl) (fun _ _ _ h => h) (Or.inl ⟨by rfl, (by intro w' hSw; (try dsimp only at hSw); go_simp)⟩) (by assumption) ?_
    try simp only [Act.put, List.getElem_toArray, List.getElem_cons_zero, List.getElem_cons_succ, List.setIfInBounds_toArray, List.set_cons_zero, List.set_cons_succ]
    refine wpAnyH_done (by kernel_rfl) ?_ _
    clear hHeldn hgs hE hV hS hb
    have hvB : RB.V.length = m1 := own_len hVn
    have hsB : RB.S.length = m2 := own_len hSn
    have hleB := own_le hVn
    have H9 := Lib.hid (And.intro hx (And.intro hVn (And.intro hSn (And.intro (H7.out.1.below hbn) (And.intro (H7.out.2.2.1.below hbn) (And.intro (H7.out.2.2.2.1.below hbn) (And.intro (H7.out.2.2.2.2.1.below hbn) (And.intro (below_then H7.out.2.2.2.2.2.1 hbn) (And.intro (H7.out.2.2.2.2.2.2.1.below hbn) (H7.out.2.2.2.2.2.2.2.below hbn))))))))))
    obtain ⟨B7, hB7⟩ : ∃ g, w7.heap.size = g := ⟨_, rfl⟩
    rw [hB7] at H9
    clear hx hVn hSn hbn hap hVE hSE hEl KEEP HEF HD H7 hpl hB7
    revert H9 hleB hsB hvB
    revert k2 m2 e2 k1 m1 e1 gE yn
    intro gB b1 m3 k3 b2 m4 k4 w9 hvB hsB hleB H9
    refine Lib.hid ?_
    go_wp2
    have HD := Lib.hid (show Below w9.heap.size w9 w9.drew from Below.drew (Below.refl _ w9))
    have hpl : w1.heap.size < w9.heap.size := H9.out.2.2.2.2.1.lt
    have hgl : gB < w9.heap.size := H9.out.1.lt
    have KEEP := Lib.hid (show ∀ w', Below w9.heap.size w9 w' → w'.cell? ⟨w1.heap.size, 0, none⟩ = some (.slice (some ⟨gp, 0, none⟩) n c) ∧ w'.cell? ⟨gB, 0, none⟩ = some (.slice b1 m3 k3) ∧ w'.cell? ⟨gB, 2, none⟩ = some (.int .i64 RB.T) from fun w' hb => ⟨(hb.cell (p := ⟨w1.heap.size, 0, none⟩) hpl).trans (H9.out.2.2.2.2.1.cell 0), (hb.cell (p := ⟨gB, 0, none⟩) hgl).trans (H9.out.1.cell 0), (hb.cell (p := ⟨gB, 2, none⟩) hgl).trans (H9.out.1.cell 2)⟩)
    obtain ⟨o9, ho9⟩ : ∃ o, (if cu = k then 0 else k) = o := ⟨_, rfl⟩
    obtain ⟨r9, hr9⟩ : ∃ r, nu - k = r := ⟨_, rfl⟩
    obtain ⟨c9, hc9⟩ : ∃ r, cu - k = r := ⟨_, rfl⟩
    have hcut := cut_lS gu nu cu k o9 r9 c9 k rfl hkn ho9 hr9 hc9
    have HEF := Lib.hid (show ∀ w', Below w9.heap.size w9 w' → Calls Try.prog 17 #[.agg #[.slice (some ⟨gp, 0, none⟩) n c], .int .i64 RB.T, .slice b1 m3 k3, .slice (some ⟨gu, o9, none⟩) r9 c9] w' (NewRefB w' true RC) from fun w' hb =>
      impl_refrun (some ⟨gp, 0, none⟩) n c P HSZ.out hnc w' (H9.out.2.2.2.2.2.1.below hb) b1 m3 k3 RB.V (by omega) hleB ((Row.of_own H9.out.2.1).below hb) (some ⟨gu, o9, none⟩) r9 c9 (UU.drop k) (ss_drop HUS.out k) (by omega) (by rw [← hr9]; exact (H9.out.2.2.2.2.2.2.1.below hb).tail hkn (fun h => by rw [← ho9, if_neg (by omega)])) RB.T true RC HRC.out)
    clear ho9
    refine wp_region_held_drew (S := (fun w' => w'.cell? ⟨w1.heap.size, 0, none⟩ = some (.slice (some ⟨gp, 0, none⟩) n c) ∧ w'.cell? ⟨gB, 0, none⟩ = some (.slice b1 m3 k3) ∧ w'.cell? ⟨gB, 2, none⟩ = some (.int .i64 RB.T))) (by kernel_rfl) (KEEP.out _ HD.out) (fun hHeld => ?_)
    obtain ⟨y0, hy0⟩ : ∃ z, w9.drew = z := ⟨_, rfl⟩
    have hb0 : Below w9.heap.size w9 y0 := by rw [← hy0]; exact HD.out
    rw [hy0] at hHeld ⊢
    clear hy0
    refine wpAnyH_take (i := 0) (v := .agg #[.slice (some ⟨gp, 0, none⟩) n c]) rfl (by kernel_rfl) (by kernel_rfl) (by kernel_rfl) (fun _ _ _ h => h) (Or.inl ⟨by rfl, (by intro w' hSw; (try dsimp only at hSw); go_simp)⟩) (by assumption) ?_
    try simp only [Act.put, List.getElem_toArray, List.getElem_cons_zero, List.setIfInBounds_toArray, List.set_cons_zero, List.set_cons_succ]
    refine wpAnyH_take (i := 1) (v := .pointer (some ⟨gB, 2, none⟩)) rfl (by kernel_rfl) (by kernel_rfl) (by kernel_rfl) (fun _ _ _ h => h) (Or.inl ⟨by rfl, (by intro w' hSw; (try dsimp only at hSw); go_simp)⟩) (by assumption) ?_
    try simp only [Act.put, List.getElem_toArray, List.getElem_cons_zero, List.getElem_cons_succ, List.setIfInBounds_toArray, List.set_cons_zero, List.set_cons_succ]
    refine wpAnyH_take (i := 2) (v := .int .i64 RB.T) rfl (by kernel_rfl) (by kernel_rfl) (by kernel_rfl) (fun _ _ _ h => h) (Or.inl ⟨by rfl, (by intro w' hSw; (try dsimp only at hSw); go_simp)⟩) (by assumption) ?_
    try simp only [Act.put, List.getElem_toArray, List.getElem_cons_zero, List.getElem_cons_succ, List.setIfInBounds_toArray, List.set_cons_zero, List.set_cons_succ]
    refine wpAnyH_take (i := 3) (v := .pointer (some ⟨gB, 0, none⟩)) rfl (by kernel_rfl) (by kernel_rfl) (by kernel_rfl) (fun _ _ _ h => h) (Or.inl ⟨by rfl, (by intro w' hSw; (try dsimp only at hSw); go_simp)⟩) (by assumption) ?_
    try simp only [Act.put, List.getElem_toArray, List.getElem_cons_zero, List.getElem_cons_succ, List.setIfInBounds_toArray, List.set_cons_zero, List.set_cons_succ]
    refine wpAnyH_take (i := 4) (v := .slice b1 m3 k3) rfl (by kernel_rfl) (by kernel_rfl) (by kernel_rfl) (fun _ _ _ h => h) (Or.inl ⟨by rfl, (by intro w' hSw; (try dsimp only at hSw); go_simp)⟩) (by assumption) ?_
    try simp only [Act.put, List.getElem_toArray, List.getElem_cons_zero, List.getElem_cons_succ, List.setIfInBounds_toArray, List.set_cons_zero, List.set_cons_succ]
    refine wpAnyH_take (i := 5) (v := .slice (some ⟨gu, 0, none⟩) nu cu) rfl (by kernel_rfl) (by kernel_rfl) (by kernel_rfl) (fun _ _ _ h => h) (Or.inl ⟨by rfl, (by intro w' hSw; (try dsimp only at hSw); go_simp)⟩) (by assumption) ?_
    try simp only [Act.put, List.getElem_toArray, List.getElem_cons_zero, List.getElem_cons_succ, List.setIfInBounds_toArray, List.set_cons_zero, List.set_cons_succ]
    refine wpAnyH_take (i := 6) (v := .int .i64 (k : Int)) rfl (by kernel_rfl) (by kernel_rfl) (by kernel_rfl) (fun _ _ _ h => h) (Or.inl ⟨by rfl, (by intro w' hSw; (try dsimp only at hSw); go_simp)⟩) (by assumption) ?_
    try simp only [Act.put, List.getElem_toArray, List.getElem_cons_zero, List.getElem_cons_succ, List.setIfInBounds_toArray, List.set_cons_zero, List.set_cons_succ]
    refine wpAnyH_take (i := 7) (v := .slice (some ⟨gu, o9, none⟩) r9 c9) rfl (by kernel_rfl) (by kernel_rfl) (by kernel_rfl) (fun _ _ _ h => h) (Or.inl ⟨by rfl, (by intro w' hSw; (try dsimp only at hSw); go_simp)⟩) (by assumption) ?_
    try simp only [Act.put, List.getElem_toArray, List.getElem_cons_zero, List.getElem_cons_succ, List.setIfInBounds_toArray, List.set_cons_zero, List.set_cons_succ]
    clear hcut
    refine wpAnyH_ready (rs := [8, 12]) (by kernel_rfl) (by simp) ?_
    refine AllReadyH.cons rfl (fun K hK => ?_) ?_
    rw [if_pos (by kernel_rfl)]
    go_simp
    go_at_call 17
    refine (HEF.out y0 hb0).mono ?_
    rintro e y1 ⟨e1, m1, k1, e2, m2, k2, rfl, hm, hbc⟩
    have hb1 : Below w9.heap.size w9 y1 := below_then hb0 hbc
    refine hK.out _ _ (KEEP.out _ hb1) (fun hHeld1 => ?_)
    clear hK K hHeld
    try simp only [Act.put, List.getElem_toArray, List.getElem_cons_zero, List.getElem_cons_succ, List.setIfInBounds_toArray, List.set_cons_zero, List.set_cons_succ]
    refine wpAnyH_take (i := 9) (v := .tuple #[refV e1 m1 k1 e2 m2 k2 RC, .bool true]) rfl (by kernel_rfl) (by kernel_rfl) (by kernel_rfl) (fun _ _ _ h => h) (Or.inl ⟨by rfl, (by intro w' hSw; (try dsimp only at hSw); go_simp)⟩) (by assumption) ?_
    try simp only [Act.put, List.getElem_toArray, List.getElem_cons_zero, List.getElem_cons_succ, List.setIfInBounds_toArray, List.set_cons_zero, List.set_cons_succ]
    refine wpAnyH_take (i := 10) (v := refV e1 m1 k1 e2 m2 k2 RC) rfl (by kernel_rfl) (by kernel_rfl) (by kernel_rfl) (fun _ _ _ h => h) (Or.inl ⟨by rfl, (by intro w' hSw; (try dsimp only at hSw); go_simp)⟩) (by assumption) ?_
    try simp only [Act.put, List.getElem_toArray, List.getElem_cons_zero, List.getElem_cons_succ, List.setIfInBounds_toArray, List.set_cons_zero, List.set_cons_succ]
    refine wpAnyH_take (i := 11) (v := .bool true) rfl (by kernel_rfl) (by kernel_rfl) (by kernel_rfl) (fun _ _ _ h => h) (Or.inl ⟨by rfl, (by intro w' hSw; (try dsimp only at hSw); go_simp)⟩) (by assumption) ?_
    try simp only [Act.put, List.getElem_toArray, List.getElem_cons_zero, List.getElem_cons_succ, List.setIfInBounds_toArray, List.set_cons_zero, List.set_cons_succ]
    refine wpAnyH_ready (rs := [12]) (by kernel_rfl) (by simp) ?_
    refine AllReadyH.cons rfl (fun K hK => ?_) AllReadyH.nil
    obtain ⟨yn, hyn⟩ : ∃ z, y1.alloc (.cells zero3R 45) = z := ⟨_, rfl⟩
    obtain ⟨gE, hgE⟩ : ∃ g, y1.heap.size = g := ⟨_, rfl⟩
    have hbn : Below w9.heap.size w9 yn := by rw [← hyn]; exact below_then hb1 (below_new _ _)
    have hEn : Box gE zero3R 45 yn := by rw [← hyn, ← hgE]; exact Box.new _ _ _
    have hEln : w9.heap.size ≤ gE := by rw [← hgE]; exact hb1.size
    have hVn := (hm.1.mono hb0.size).alloc (.cells zero3R 45)
    rw [hyn] at hVn
    have hSn := (hm.2.1.mono hb0.size).alloc (.cells zero3R 45)
    rw [hyn] at hSn
    have hapn := hm.2.2
    have hVEn := ne_own9 hm.1.lt (.inr (show y1.heap.size ≤ gE by omega))
    have hSEn := ne_own9 hm.2.1.lt (.inr (show y1.heap.size ≤ gE by omega))
    rw [if_pos (by kernel_rfl)]
    go_simp
    (try rw [hyn])
    (try rw [hgE])
    refine hK.out _ _ (KEEP.out _ hbn) (fun hHeldn => ?_)
    try simp only [Act.put, List.getElem_toArray, List.getElem_cons_zero, List.getElem_cons_succ, List.setIfInBounds_toArray, List.set_cons_zero, List.set_cons_succ]
    clear hK K hyn hgE hHeld1 hm hbc hb1 y1 hb0 y0
    revert hSEn
    revert hVEn
    revert hapn
    revert hSn
    revert hVn
    revert hEln
    revert hEn
    revert hbn
    revert hHeldn
    revert k2
    revert m2
    revert e2
    revert k1
    revert m1
    revert e1
    revert gE
    revert yn
    refine ?stoU
    rotate_left
    refine AllReadyH.cons rfl (fun K hK => ?_) ?_
    obtain ⟨y1, hy1⟩ : ∃ z, y0.alloc (.cells zero3R 45) = z := ⟨_, rfl⟩
    obtain ⟨gE, hgE⟩ : ∃ g, y0.heap.size = g := ⟨_, rfl⟩
    have hb1 : Below w9.heap.size w9 y1 := by rw [← hy1]; exact below_then hb0 (below_new _ _)
    have hE1 : Box gE zero3R 45 y1 := by rw [← hy1, ← hgE]; exact Box.new _ _ _
    have hEln : w9.heap.size ≤ gE := by rw [← hgE]; exact hb0.size
    rw [if_pos (by kernel_rfl)]
    go_simp
    (try rw [hy1])
    (try rw [hgE])
    refine hK.out _ _ (KEEP.out _ hb1) (fun hHeld1 => ?_)
    try simp only [Act.put, List.getElem_toArray, List.getElem_cons_zero, List.getElem_cons_succ, List.setIfInBounds_toArray, List.set_cons_zero, List.set_cons_succ]
    clear hK K hy1 hgE hHeld
    refine wpAnyH_ready (rs := [8]) (by kernel_rfl) (by simp) ?_
    refine AllReadyH.cons rfl (fun K hK => ?_) AllReadyH.nil
    rw [if_pos (by kernel_rfl)]
    go_simp
    go_at_call 17
    refine (HEF.out y1 hb1).mono ?_
    rintro e yn ⟨e1, m1, k1, e2, m2, k2, rfl, hm, hbc⟩
    have hbn : Below w9.heap.size w9 yn := below_then hb1 hbc
    have hEn := hE1.below hbc
    have hVn := hm.1.mono hb1.size
    have hSn := hm.2.1.mono hb1.size
    have hapn := hm.2.2
    have hVEn := ne_own9 hm.1.lt (.inl hE1.lt)
    have hSEn := ne_own9 hm.2.1.lt (.inl hE1.lt)
    refine hK.out _ _ (KEEP.out _ hbn) (fun hHeldn => ?_)
    try simp only [Act.put, List.getElem_toArray, List.getElem_cons_zero, List.getElem_cons_succ, List.setIfInBounds_toArray, List.set_cons_zero, List.set_cons_succ]
    refine wpAnyH_take (i := 9) (v := .tuple #[refV e1 m1 k1 e2 m2 k2 RC, .bool true]) rfl (by kernel_rfl) (by kernel_rfl) (by kernel_rfl) (fun _ _ _ h => h) (Or.inl ⟨by rfl, (by intro w' hSw; (try dsimp only at hSw); go_simp)⟩) (by assumption) ?_
    try simp only [Act.put, List.getElem_toArray, List.getElem_cons_zero, List.getElem_cons_succ, List.setIfInBounds_toArray, List.set_cons_zero, List.set_cons_succ]
    refine wpAnyH_take (i := 10) (v := refV e1 m1 k1 e2 m2 k2 RC) rfl (by kernel_rfl) (by kernel_rfl) (by kernel_rfl) (fun _ _ _ h => h) (Or.inl ⟨by rfl, (by intro w' hSw; (try dsimp only at hSw); go_simp)⟩) (by assumption) ?_
    try simp only [Act.put, List.getElem_toArray, List.getElem_cons_zero, List.getElem_cons_succ, List.setIfInBounds_toArray, List.set_cons_zero, List.set_cons_succ]
    refine wpAnyH_take (i := 11) (v := .bool true) rfl (by kernel_rfl) (by kernel_rfl) (by kernel_rfl) (fun _ _ _ h => h) (Or.inl ⟨by rfl, (by intro w' hSw; (try dsimp only at hSw); go_simp)⟩) (by assumption) ?_
    try simp only [Act.put, List.getElem_toArray, List.getElem_cons_zero, List.getElem_cons_succ, List.setIfInBounds_toArray, List.set_cons_zero, List.set_cons_succ]
    clear hK K hHeld1 hm hbc hE1 hb1 y1 hb0 y0
    revert hSEn
    revert hVEn
    revert hapn
    revert hSn
    revert hVn
    revert hEln
    revert hEn
    revert hbn
    revert hHeldn
    revert k2
    revert m2
    revert e2
    revert k1
    revert m1
    revert e1
    revert gE
    revert yn
    refine ?stoU
    exact AllReadyH.nil
    intro y gE e1 m1 k1 e2 m2 k2 hHeld hb hE hEl hV hS hap hVE hSE
    refine wpAnyH_ready (rs := [13]) (by kernel_rfl) (by simp) ?_
    refine AllReadyH.cons rfl (fun K hK => ?_) AllReadyH.nil
    have z0 : y.cell? ⟨gE, 0, none⟩ = some (.slice none 0 0) := hE.cell 0
    have f0 : y.frozen? ⟨gE, 0, none⟩ = false := hE.frozen 0
    have z1 : y.cell? ⟨gE, 1, none⟩ = some (.slice none 0 0) := hE.cell 1
    have f1 : y.frozen? ⟨gE, 1, none⟩ = false := hE.frozen 1
    have z2 : y.cell? ⟨gE, 2, none⟩ = some (.int .i64 0) := hE.cell 2
    have f2 : y.frozen? ⟨gE, 2, none⟩ = false := hE.frozen 2
    have hgs : y.grownBy (((y.setCell ⟨gE, 0, none⟩ (.slice e1 m1 k1)).setCell ⟨gE, 1, none⟩ (.slice e2 m2 k2)).setCell ⟨gE, 2, none⟩ (.int .i64 RC.T)) (some gE) := grown_trans (grown_trans (grown_setCell _ _ _ _) (grown_setCell _ _ _ _)) (grown_setCell _ _ _ _)
    have hx : Box gE #[.slice e1 m1 k1, .slice e2 m2 k2, .int .i64 RC.T] 45 (((y.setCell ⟨gE, 0, none⟩ (.slice e1 m1 k1)).setCell ⟨gE, 1, none⟩ (.slice e2 m2 k2)).setCell ⟨gE, 2, none⟩ (.int .i64 RC.T)) := ((hE.set 0 _).set 1 _).set 2 _
    obtain ⟨yn, hyn⟩ : ∃ z, (((y.setCell ⟨gE, 0, none⟩ (.slice e1 m1 k1)).setCell ⟨gE, 1, none⟩ (.slice e2 m2 k2)).setCell ⟨gE, 2, none⟩ (.int .i64 RC.T)) = z := ⟨_, rfl⟩
    rw [hyn] at hgs hx
    have hbn : Below w9.heap.size w9 yn := hb.grown hgs hb.size (fun q hq => by cases hq; exact hEl)
    have hVn := hV.kept hgs hVE
    have hSn := hS.kept hgs hSE
    rw [if_pos (by kernel_rfl)]
    go_simp
    (try rw [hyn])
    refine hK.out _ _ (KEEP.out _ hbn) (fun hHeldn => ?_)
    clear hK K hyn z0 z1 z2 f0 f1 f2 hHeld
    try simp only [Act.put, List.getElem_toArray, List.getElem_cons_zero, List.getElem_cons_succ, List.setIfInBounds_toArray, List.set_cons_zero, List.set_cons_succ]
    refine wpAnyH_take (i := 14) (v := .bool true) rfl (by kernel_rfl) (by kernel_rfl) (by kernel_rfl) (fun _ _ _ h => h) (Or.inl ⟨by rfl, (by intro w' hSw; (try dsimp only at hSw); go_simp)⟩) (by assumption) ?_
    try simp only [Act.put, List.getElem_toArray, List.getElem_cons_zero, List.getElem_cons_succ, List.setIfInBounds_toArray, List.set_cons_zero, List.set_cons_succ]
    refine wpAnyH_done (by kernel_rfl) ?_ _
    clear hHeldn hgs hE hV hS hb
    have hvC : RC.V.length = m1 := own_len hVn
    have hsC : RC.S.length = m2 := own_len hSn
    have H12 := Lib.hid (And.intro hx (And.intro (Row.of_own hVn) (And.intro hSn (And.intro (H9.out.1.below hbn) (And.intro (H9.out.2.2.1.kept (grown_below hbn none) (by cases b2 <;> simp [Value.ownBlock])) (And.intro (H9.out.2.2.2.1.below hbn) (And.intro (below_then H9.out.2.2.2.2.2.2.2.1 hbn) (And.intro (H9.out.2.2.2.2.2.2.2.2.1.below hbn) (H9.out.2.2.2.2.2.2.2.2.2.below hbn)))))))))
    obtain ⟨B9, hB9⟩ : ∃ g, w9.heap.size = g := ⟨_, rfl⟩
    rw [hB9] at H12
    clear hx hVn hSn hbn hap hVE hSE hEl KEEP HEF HD H9 hpl hgl hB9
    revert H12 hsC hvC
    revert k2 m2 e2 k1 m1 e1 gE yn
    intro gC f1 m5 k5 f2 m6 k6 w12 hvC hsC H12
    have HD := Lib.hid (show Below w12.heap.size w12 w12.drew from Below.drew (Below.refl _ w12))
    have KEEP := Lib.hid (show ∀ w', Below w12.heap.size w12 w' → w'.cell? ⟨gB, 1, none⟩ = some (.slice b2 m4 k4) ∧ w'.cell? ⟨gC, 1, none⟩ = some (.slice f2 m6 k6) from fun w' hb => ⟨(hb.cell (p := ⟨gB, 1, none⟩) H12.out.2.2.2.1.lt).trans (H12.out.2.2.2.1.cell 1), (hb.cell (p := ⟨gC, 1, none⟩) H12.out.1.lt).trans (H12.out.1.cell 1)⟩)
    refine Lib.hid ?_
    go_wp2
    refine wp_region_held_drew (S := (fun w' => w'.cell? ⟨gB, 1, none⟩ = some (.slice b2 m4 k4) ∧ w'.cell? ⟨gC, 1, none⟩ = some (.slice f2 m6 k6))) (by kernel_rfl) (KEEP.out _ HD.out) (fun hHeld => ?_)
    obtain ⟨y0, hy0⟩ : ∃ z, w12.drew = z := ⟨_, rfl⟩
    have hb0 : Below w12.heap.size w12 y0 := by rw [← hy0]; exact HD.out
    rw [hy0] at hHeld ⊢
    clear hy0
    refine wpAnyH_take (i := 1) (v := .pointer (some ⟨gB, 1, none⟩)) rfl (by kernel_rfl) (by kernel_rfl) (by kernel_rfl) (fun _ _ _ h => h) (Or.inl ⟨by rfl, (by intro w' hSw; (try dsimp only at hSw); go_simp)⟩) (by assumption) ?_
    try simp only [Act.put, List.getElem_toArray, List.getElem_cons_zero, List.getElem_cons_succ, List.setIfInBounds_toArray, List.set_cons_zero, List.set_cons_succ]
    refine wpAnyH_take (i := 2) (v := .slice b2 m4 k4) rfl (by kernel_rfl) (by kernel_rfl) (by kernel_rfl) (fun _ _ _ h => h) (Or.inl ⟨by rfl, (by intro w' hSw; (try dsimp only at hSw); go_simp)⟩) (by assumption) ?_
    try simp only [Act.put, List.getElem_toArray, List.getElem_cons_zero, List.getElem_cons_succ, List.setIfInBounds_toArray, List.set_cons_zero, List.set_cons_succ]
    refine wpAnyH_take (i := 4) (v := .pointer (some ⟨gC, 1, none⟩)) rfl (by kernel_rfl) (by kernel_rfl) (by kernel_rfl) (fun _ _ _ h => h) (Or.inl ⟨by rfl, (by intro w' hSw; (try dsimp only at hSw); go_simp)⟩) (by assumption) ?_
    try simp only [Act.put, List.getElem_toArray, List.getElem_cons_zero, List.getElem_cons_succ, List.setIfInBounds_toArray, List.set_cons_zero, List.set_cons_succ]
    refine wpAnyH_take (i := 5) (v := .slice f2 m6 k6) rfl (by kernel_rfl) (by kernel_rfl) (by kernel_rfl) (fun _ _ _ h => h) (Or.inl ⟨by rfl, (by intro w' hSw; (try dsimp only at hSw); go_simp)⟩) (by assumption) ?_
    try simp only [Act.put, List.getElem_toArray, List.getElem_cons_zero, List.getElem_cons_succ, List.setIfInBounds_toArray, List.set_cons_zero, List.set_cons_succ]
    refine wpAnyH_ready (rs := [0]) (by kernel_rfl) (by simp) ?_
    refine AllReadyH.cons rfl (fun K hK => ?_) AllReadyH.nil
    obtain ⟨y1, hy1⟩ : ∃ z, y0.alloc (.cells #[] 3) = z := ⟨_, rfl⟩
    obtain ⟨gL, hgL⟩ : ∃ g, y0.heap.size = g := ⟨_, rfl⟩
    have hb1 : Below w12.heap.size w12 y1 := by rw [← hy1]; exact below_then hb0 (below_new _ _)
    have hA1 : y1.ownsRow w12.heap.size 3 1 (.slice (some ⟨gL, 0, none⟩) 0 0) 0 [] := by rw [← hy1]; exact made_ati y0 gL w12.heap.size hgL (by rw [← hgL]; exact hb0.size) _
    rw [if_pos (by kernel_rfl)]
    go_simp
    (try rw [hy1])
    (try rw [hgL])
    refine hK.out _ _ (KEEP.out _ hb1) (fun hHeld1 => ?_)
    clear hK K hy1 hgL hHeld hb0
    try simp only [Act.put, List.getElem_toArray, List.getElem_cons_zero, List.getElem_cons_succ, List.setIfInBounds_toArray, List.set_cons_zero, List.set_cons_succ]
    refine wpAnyH_ready (rs := [3]) (by kernel_rfl) (by simp) ?_
    refine AllReadyH.cons rfl (fun K hK => ?_) AllReadyH.nil
    refine step_append_src _ (by rfl) _ _ _ (by rfl) w12.heap.size _ 3 i0 (.int .i64 0) 1 8 Try.underlying28 hi hz0 hz1 hz2 rfl (by decide) _ 0 _ (by rfl) hA1 (.slice b2 m4 k4) m4 (ivs RB.S) (by rfl) (H12.out.2.2.2.2.1.kept (grown_below hb1 none) (by cases b2 <;> simp [Value.ownBlock])) (ivs_one _) (by unfold maxLen; omega) (by omega) hb1.size ?_
    intro v2 y2 hA2 hg2 hat2
    have hb2 : Below w12.heap.size w12 y2 := hb1.grown hg2 hb1.size (fun q hq => (hA1.lt q hq).1)
    refine hK.out _ _ (KEEP.out _ hb2) (fun hHeld1 => ?_)
    clear hK K hg2 hat2 hA1
    (try simp only [Nat.zero_add, List.nil_append] at hA2)
    try simp only [Act.put, List.getElem_toArray, List.getElem_cons_zero, List.getElem_cons_succ, List.setIfInBounds_toArray, List.set_cons_zero, List.set_cons_succ]
    refine wpAnyH_ready (rs := [6]) (by kernel_rfl) (by simp) ?_
    refine AllReadyH.cons rfl (fun K hK => ?_) AllReadyH.nil
    refine step_append_src _ (by rfl) _ _ _ (by rfl) w12.heap.size _ 3 i0 (.int .i64 0) 1 8 Try.underlying28 hi hz0 hz1 hz2 rfl (by decide) _ m4 _ (by rfl) hA2 (.slice f2 m6 k6) m6 (ivs RC.S) (by rfl) (H12.out.2.2.1.kept (grown_below hb2 none) (by cases f2 <;> simp [Value.ownBlock])) (ivs_one _) (by unfold maxLen; omega) (by omega) hb2.size ?_
    intro v3 y3 hA3 hg2 hat2
    have hb3 : Below w12.heap.size w12 y3 := hb2.grown hg2 hb2.size (fun q hq => (hA2.lt q hq).1)
    refine hK.out _ _ (KEEP.out _ hb3) (fun hHeld1 => ?_)
    clear hK K hg2 hat2 hA2
    (try simp only [Nat.zero_add, List.nil_append] at hA3)
    try simp only [Act.put, List.getElem_toArray, List.getElem_cons_zero, List.getElem_cons_succ, List.setIfInBounds_toArray, List.set_cons_zero, List.set_cons_succ]
    obtain ⟨aL, cL, rfl, hcL, hLg⟩ := own_sliceA hA3
    obtain ⟨N, hN⟩ : ∃ N, m4 + m6 = N := ⟨_, rfl⟩
    rw [hN] at hA3 hcL hLg
    (try rw [hN])
    have HRL := Lib.hid (show Row y3 aL N (RB.S ++ RC.S) from Row.of_own (by simpa [ivs] using hA3))
    have HLG := Lib.hid hLg
    refine wpAnyH_take (i := 7) (v := .slice aL N cL) rfl (by kernel_rfl) (by kernel_rfl) (by kernel_rfl) (fun _ _ _ h => h) (Or.inl ⟨by rfl, (by intro w' hSw; (try dsimp only at hSw); go_simp)⟩) (by assumption) ?_
    try simp only [Act.put, List.getElem_toArray, List.getElem_cons_zero, List.getElem_cons_succ, List.setIfInBounds_toArray, List.set_cons_zero, List.set_cons_succ]
    refine wpAnyH_done (by kernel_rfl) ?_ _
    have H13 := Lib.hid (And.intro (H12.out.1.below hb3) (And.intro (H12.out.2.1.below hb3) (And.intro (H12.out.2.2.2.2.2.1.below hb3) (And.intro (below_then H12.out.2.2.2.2.2.2.1 hb3) (And.intro (H12.out.2.2.2.2.2.2.2.1.below hb3) (H12.out.2.2.2.2.2.2.2.2.below hb3))))))
    have p0 : y3.cell? ⟨gC, 0, none⟩ = some (.slice f1 m5 k5) := H13.out.1.cell 0
    have p2 : y3.cell? ⟨gC, 2, none⟩ = some (.int .i64 RC.T) := H13.out.1.cell 2
    have hNI : (N : Int) ≤ 48 := by omega
    have hm5 : (m5 : Int) ≤ 1048576 := by omega
    clear hA3 hLg HD KEEP H12 hHeld1 hb3 hb2 hb1
    refine Lib.hid ?_
    by_cases hgt : 24 < N
    · have hgtI : (24 : Int) < N := by omega
      obtain ⟨gL9, rfl⟩ := HLG.out (by omega)
      have hcut := cut_hI gL9 N cL 24 24 rfl (by omega)
      have HSM := Lib.hid (show sameRf RA ⟨RC.V, (box RB.S RC.S), RC.T⟩ = true from by rw [HPA.out]; simp [sameRf, box])
      have HRW := Lib.hid (show Row y3 (some ⟨gL9, 0, none⟩) 24 (box RB.S RC.S) from row_head HRL.out (by omega))
      go_wp2_with (first
        | (refine load_on (by kernel_rfl) 45 _ rfl gA rfl _ #[.slice a1 n1 d1, .slice a2 n2 d2, .int .i64 RA.T] _ _ H13.out.2.2.1 Try.underlying45 rfl (by kernel_rfl) ?_)
        | (go_at_call 18; (refine (impl_sameref _ a1 n1 d1 a2 n2 d2 RA hn1 hn2 H13.out.2.2.2.2.1 H13.out.2.2.2.2.2 f1 m5 k5 (some ⟨gL9, 0, none⟩) 24 cL ⟨RC.V, (box RB.S RC.S), RC.T⟩ hm5 (by omega) H13.out.2.1 HRW.out true HSM.out).mono ?_); rintro e yF ⟨rfl, hbF⟩; refine Hid.out ?_))
      have HF := Lib.hid (below_then H13.out.2.2.2.1 hbF)
      clear hbF
      refine Lib.hid ?_
      go_wp2
      go_ret
      exact ⟨rfl, HF.out⟩
    · have hgtI : ¬ (24 : Int) < N := by omega
      have HBX := Lib.hid (show box RB.S RC.S = RB.S ++ RC.S from by unfold box; rw [List.take_of_length_le]; rw [List.length_append]; omega)
      have HSM := Lib.hid (show sameRf RA ⟨RC.V, (RB.S ++ RC.S), RC.T⟩ = true from by rw [HPA.out]; simp [sameRf, HBX.out])
      have HRW := Lib.hid (show Row y3 aL N (RB.S ++ RC.S) from HRL.out)
      go_wp2_with (first
        | (refine load_on (by kernel_rfl) 45 _ rfl gA rfl _ #[.slice a1 n1 d1, .slice a2 n2 d2, .int .i64 RA.T] _ _ H13.out.2.2.1 Try.underlying45 rfl (by kernel_rfl) ?_)
        | (go_at_call 18; (refine (impl_sameref _ a1 n1 d1 a2 n2 d2 RA hn1 hn2 H13.out.2.2.2.2.1 H13.out.2.2.2.2.2 f1 m5 k5 aL N cL ⟨RC.V, (RB.S ++ RC.S), RC.T⟩ hm5 (by omega) H13.out.2.1 HRW.out true HSM.out).mono ?_); rintro e yF ⟨rfl, hbF⟩; refine Hid.out ?_))
      have HF := Lib.hid (below_then H13.out.2.2.2.1 hbF)
      clear hbF
      refine Lib.hid ?_
      go_wp2
      go_ret
      exact ⟨rfl, HF.out⟩

/-! ### THE ROW's STEP: WRITTEN OUT: LEAVE IT -/
set_option maxRecDepth 100000 in
theorem lifted (os : Os) (started : os.Started) (H : Type) (enc : TypeId × Value → H) :
    ReturnsInHanded {} Try.checked os 5 .any (Rows.fnRefPartsSpec.pre6 enc Try.prog Try.f5 Rows.fnRefPartsRow.domain false) (Rows.fnRefPartsSpec.post enc Try.prog Try.f5 false true false false) := by
  refine returnsInHanded_of_change (C := Try.checked) own started (by kernel_rfl) Try.func5
    (ChangeSpec.witness6 (enc := enc) (C := Try.checked) false ⟨#[], #[.slice none 0 0], []⟩ 8 (by kernel_rfl) (by kernel_rfl) (by kernel_rfl) (by kernel_rfl)) ?_
  intro W base args ds gs before hval0 hW hcnd _
  have hval : ∀ (j : Nat) t v, Try.f5.params[j]? = some t → args[j]? = some v → Value.okWide Try.prog W .any base t v := hval0
  have hW' := hW
  obtain ⟨p, q, hA0, hV, rfl, hfz, hnd⟩ := hW
  have hA : DataW.TrodAll enc Try.prog W 0 (fun _ => true) true Try.f5.params.toList args.toList ds p := hA0
  rw [Try.params5] at hA hval
  obtain ⟨v0, vs0, d0, ds0, p0, q0, hargs, rfl, rfl, h0, r0⟩ := trodAll_cons hA
  obtain ⟨rfl, rfl, rfl⟩ := trodAll_nil r0
  obtain rfl : args = #[v0] := by cases args; simp_all
  obtain ⟨rfl, rfl⟩ := trodVars_none hV
  obtain ⟨a0, len0, cap0, rfl⟩ := okWide_slice Try.underlying22 (hval 0 22 v0 rfl rfl)
  have k0 := h0
  have lt0 : ∀ x ∈ p0, x.block < W.heap.size := by obtain ⟨m, hm⟩ := k0; exact DataW.trod_lt m _ _ _ hm
  obtain ⟨z0, w0⟩ : ∃ zs, IsRow .u8 W a0 len0 cap0 zs := by
    obtain ⟨fuel, hf⟩ := h0
    rcases open_ints Try.underlying22 Try.underlying5 (by kernel_rfl) hf with ⟨hcs, _⟩ | ⟨x, l, c, zs, hcs, _, hl, hm, hz, _, hcell, hwz⟩
    · simp [Value.cells] at hcs
      obtain ⟨rfl, rfl, rfl⟩ := hcs
      exact ⟨[], .inl ⟨rfl, rfl, rfl, rfl⟩⟩
    · simp [Value.cells] at hcs
      obtain ⟨rfl, rfl, rfl⟩ := hcs
      exact ⟨zs, .inr ⟨_, rfl, hl, hm, by simpa using hz, hcell, hwz⟩⟩
  clear hA0 hval0
  refine (walk a0 len0 cap0 z0 W w0).mono fun e W' ⟨he, bel⟩ => ?_
  subst he
  exact ⟨_, rfl, _, _, _, [], _, [], hW', trodAll_mk1 (shut_bool Try.underlying4 _), (trodAll_cons_mk (Below.trod laidOut (by kernel_rfl) (of_decide_eq_true (by kernel_rfl)) k0 bel lt0) trodAll_mk0), rfl, bel.frame _, fun h => by cases h⟩

theorem over : Rows.fnRefPartsRow.holds Try.pinned (OpenSpec.ofChange Rows.fnRefPartsSpec) :=
  OpenClaim.holds_of_wide 5 Try.f5 rfl rfl rfl rfl rfl rfl rfl ⟨rfl, rfl, rfl, rfl, rfl⟩ rfl rfl rfl rfl rfl (by kernel_rfl) Try.func5 (by kernel_rfl)
    (of_decide_eq_true (by kernel_rfl)) (by unfold Func.isWrapper; first | (rw [if_pos (by decide +kernel)]; kernel_rfl) | (rw [if_neg (by decide +kernel)]; exact ⟨rfl, rfl⟩))
    (fun os started H enc _ => lifted os started H enc)

/-- ████ THE STATEMENT ████ -/
theorem proved : Rows.FnRefPartsSaid := over
#print axioms proved
end Go.Proofs.Ytekdnhhmiabngaa.fnRefParts
