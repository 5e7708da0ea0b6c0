/- For every input the law FnRefTasks returns true and leaves its argument as it was; no condition. -/
import Derived.Test.YtekdnhhmiabngaaRows
import Derived.WalkKit
import Derived.ProofKit
import Derived.OpenShut
import Derived.ShutString
import Derived.ChangeOld
import Derived.Below
import Derived.Test.YtekdnhhmiabngaaGHub33
import Derived.Test.YtekdnhhmiabngaaGHub35
import Derived.Test.YtekdnhhmiabngaaGHub39
import Derived.Test.YtekdnhhmiabngaaGHub36
import Derived.Test.YtekdnhhmiabngaaGHub34
import Derived.Test.YtekdnhhmiabngaaGHub0
import Derived.Test.YtekdnhhmiabngaaGHub16
import Derived.Test.YtekdnhhmiabngaaGHub22
import Derived.Test.YtekdnhhmiabngaaGHub29
import Derived.Test.YtekdnhhmiabngaaGHub18
import Derived.Test.YtekdnhhmiabngaaGHub40
import Derived.Deep.RegionHeld3
import Derived.Deep.RegionLaw
import Derived.Deep.AppendLies
namespace Go.Proofs.Ytekdnhhmiabngaa.fnRefTasks
open Go.ChangeShapes Go.WideShapes Go.ChangeAt Go.RowKit
open Go.ChangeMaps (open_string shut_string)
set_option linter.unusedVariables false

theorem own : ownKnob Try.prog.godebug = none := by kernel_rfl
theorem laidOut : laidOutB Try.prog = true := by kernel_rfl

/-- WHAT THE WALK IS TOLD OF A SLICE OF INTEGERS THAT CAME IN: it is nil; or it leads to a row of 'cap' cells, the numbers 'zs' (the first 'len' are its elements, the rest its spare room), each fitting its kind. -/
def IsRow (k : IntKind) (w : World) (a : Option Addr) (len cap : Nat) (zs : List Int) : Prop :=
  (a = none ∧ len = 0 ∧ cap = 0 ∧ zs = []) ∨
  ∃ x, a = some x ∧ len ≤ cap ∧ cap ≤ maxLen ∧ zs.length = cap ∧ (∀ i, i < zs.length → w.cell? (x.add i) = some (.int k (zs.getD i 0))) ∧ ∀ n ∈ zs, (Lit.int k n).wf = true

open Go.Proofs.Ytekdnhhmiabngaa.row Go.Proofs.Ytekdnhhmiabngaa.val Go.Proofs.Ytekdnhhmiabngaa.expr Go.Proofs.Ytekdnhhmiabngaa.stm Go.Proofs.Ytekdnhhmiabngaa.cur Go.Proofs.Ytekdnhhmiabngaa.blk Go.Proofs.Ytekdnhhmiabngaa.prg Go.Proofs.Ytekdnhhmiabngaa.exe Go.Proofs.Ytekdnhhmiabngaa.srow Go.Proofs.Ytekdnhhmiabngaa.ref
theorem rng_below {w w' : World} {g o : Nat} {cs : List Value} (h : w.rangeAt g o cs) (hg : g < w.heap.size) (hb : Below w.heap.size w w') : w'.rangeAt g o cs := fun j v hj => (hb.cell (p := ⟨g, o + j, none⟩) hg).trans (h j v hj)
theorem sizes_drawn {P : List Tk} (hl : P.length ≤ 3) (h : ∀ t ∈ P, TkOk t) : Sizes P := ⟨by omega, fun t ht => by have := (h t ht).2.1; omega⟩
theorem prg_drawn {P : List Tk} (h1 : 1 ≤ P.length) (hl : P.length ≤ 3) (h : ∀ t ∈ P, TkOk t) : IsPrg P := ⟨h1, by omega, fun t ht => ⟨(h t ht).1, (h t ht).2.2⟩⟩
theorem rdg_val {R : List Int} (h : RdgIn R) : allV R = true := (allV_iff R).2 fun q hq => by have := h q hq; exact isVal_in (by omega) (by omega)
theorem sizes_used {LL : List (List Int)} (hl : LL.length ≤ 4) (h : ∀ L ∈ LL, RdgIn L ∧ L.length ≤ 9) : SSizes LL := ⟨by omega, fun t ht => by have := (h t ht).2; omega⟩
theorem rdg_all {LL : List (List Int)} (h : ∀ L ∈ LL, RdgIn L ∧ L.length ≤ 9) : ∀ u ∈ LL, allV u = true := fun u hu => (allV_iff u).2 fun q hq => by have := (h u hu).1 q hq; exact isVal_in (by omega) (by omega)
theorem ss_take {LL : List (List Int)} (h : SSizes LL) (k : Nat) : SSizes (LL.take k) := ⟨by rw [List.length_take]; have := h.1; omega, fun t ht => h.2 t (List.mem_of_mem_take ht)⟩
theorem ss_drop {LL : List (List Int)} (h : SSizes LL) (k : Nat) : SSizes (LL.drop k) := ⟨by rw [List.length_drop]; have := h.1; omega, fun t ht => h.2 t (List.mem_of_mem_drop ht)⟩
theorem ne_own9 {v : Value} {a b g : Nat} (h : ∀ q, v.ownBlock = some q → a ≤ q ∧ q < b) (hg : g < a ∨ b ≤ g) : v.ownBlock = none ∨ v.ownBlock ≠ some g := by
  cases hq : v.ownBlock with
  | none => exact .inl rfl
  | some q => right; intro e; have := h q hq; have := Option.some.inj e; omega
set_option maxHeartbeats 8000000 in
set_option maxRecDepth 100000 in
theorem walk (a0 : Option Addr) (len0 cap0 : Nat) (z0 : List Int) (w : World) (w0 : IsRow .u8 w a0 len0 cap0 z0) :
    Calls Try.prog 6 #[.slice a0 len0 cap0] w fun e w' => e = .returned (.bool true) ∧ Below w.heap.size w w' := by
  obtain ⟨i0, hi, hz0, hz1, hz2⟩ := info_parts row.infoInt
  have HB : Hid (∀ i : Nat, i < len0 → ∃ (b off : Nat) (v : Int), a0 = some ⟨b, off, none⟩ ∧ w.cell? ⟨b, off + i, none⟩ = some (.int .u8 v)) := by
    intro i hi
    rcases w0 with ⟨_, h0, _⟩ | ⟨x, rfl, hl, _, hz, hcell, _⟩
    · omega
    · obtain ⟨b, off, rfl, hc⟩ := ints_at hcell (by omega)
      exact ⟨b, off, _, rfl, hc i (by omega)⟩
  have HB2 : Hid (∀ w1 : World, Below w.heap.size w w1 → ∀ i : Nat, i < len0 → ∃ (b off : Nat) (v : Int), a0 = some ⟨b, off, none⟩ ∧ w1.cell? ⟨b, off + i, none⟩ = some (.int .u8 v)) := by
    intro w1 hb1 i hi
    obtain ⟨b, off, v, ha, hv⟩ := HB.out i hi
    exact ⟨b, off, v, ha, (hb1.cell (World.block_lt_of_cell? w _ hv)).trans hv⟩
  clear w0
  by_cases hbig : (1048576 : Int) < len0
  · go_enter Try.func6, Try.ntmps6
    go_wp2_with (go_at_call 7; refine (big_yes _ _ _ _ hbig).mono ?_; rintro e w1 ⟨rfl, rfl⟩)
    go_ret
    exact ⟨rfl, Below.refl _ _⟩
  · have hsm : (len0 : Int) ≤ 1048576 := by omega
    clear hbig
    go_enter Try.func6, Try.ntmps6
    go_wp2_with (first
      | (go_at_call 7; refine (big_no _ _ _ _ hsm).mono ?_; rintro e w1 ⟨rfl, rfl⟩)
      | (go_at_call 8; refine (drawprogram_any _ _ _ _ hsm HB.out).mono ?_; rintro e w1 ⟨ad, n, c, P, rfl, hn1, hn3, hnc, HOK, HR, hb1⟩; refine Hid.out ?_))
    have HA1 := Lib.hid (And.intro (Box.new w1 #[.slice none 0 0] 26) (below_new w1 (.cells #[.slice none 0 0] 26)))
    obtain ⟨gp, t, gb, nb, cb, rfl, _, hgp, ht, hrg, hbc, _, hrow⟩ := HR.out.2 0 (by omega)
    have hPl : P.length = n := HR.out.1
    have HB1 := Lib.hid (And.intro hb1 (And.intro HR.out.row (And.intro hrg hrow)))
    have hIP : IsPrg P := prg_drawn (by omega) (by omega) HOK.out
    have HSZ := Lib.hid (sizes_drawn (show P.length ≤ 3 by omega) HOK.out)
    have hTO := HOK.out t (List.mem_of_getElem? ht)
    have hnb : t.b.length = nb := hrow.1
    have hnbI : (nb : Int) ≤ 20 := by have := hTO.2.1; omega
    clear hb1 HR hrg hrow
    refine Lib.hid ?_
    go_wp2_with ((refine wpList_store_box rfl 26 _ _ rfl w1.heap.size _ _ HA1.out.1 #[.slice (some ⟨gp, 0, none⟩) n c] rfl rfl rfl (by kernel_rfl) (by simp [Value.oneCell']) ?_); intro w2 hx2 hg2; refine Hid.out ?_)
    have hb2 : Below w1.heap.size w1 w2 := HA1.out.2.grown hg2 HA1.out.2.size (fun j hj => by cases hj; exact Nat.le_refl _)
    have H2 := Lib.hid (And.intro hx2 (And.intro (HB1.out.2.1.below hb2) (And.intro (rng_below HB1.out.2.2.1 hgp hb2) (And.intro (HB1.out.2.2.2.below hb2) (below_then HB1.out.1 hb2)))))
    clear hx2 hg2 hb2 HA1 HB1
    refine Lib.hid ?_
    go_wp2_with (go_at_call 9; refine (vars_any _ _ _ _ hsm (HB2.out _ H2.out.2.2.2.2)).mono ?_; rintro e w3 ⟨av, cv, V, rfl, HVL, HVV, hown3, hb3⟩; refine Hid.out ?_)
    have hvok : varsOk V = true := (varsOk_iff V).2 ⟨HVL.out, HVV.out⟩
    have hcv : 8 ≤ cv := own_le hown3
    have H3 := Lib.hid (And.intro hown3 (And.intro (H2.out.1.below hb3) (And.intro (H2.out.2.1.below hb3) (And.intro (rng_below H2.out.2.2.1 (Nat.lt_of_lt_of_le hgp (Nat.le_of_lt H2.out.1.lt)) hb3) (And.intro (H2.out.2.2.2.1.below hb3) (below_then H2.out.2.2.2.2 hb3))))))
    have hgp3 : gp < w3.heap.size := Nat.lt_of_lt_of_le hgp (Nat.le_trans (Nat.le_of_lt H2.out.1.lt) hb3.size)
    clear hown3 hb3 H2 HVL HVV
    refine Lib.hid ?_
    go_wp2_with (go_at_call 16; refine (used_any _ _ _ _ hsm (HB2.out _ H3.out.2.2.2.2.2)).mono ?_; rintro e w4 ⟨gu, nu, cu, UU, rfl, hnc4, hn4, hgu, HUI, HUR, hb4⟩; refine Hid.out ?_)
    have hul : UU.length = nu := HUR.out.1
    have HUS := Lib.hid (sizes_used (by omega) HUI.out)
    have HUV := Lib.hid (rdg_all HUI.out)
    have HSD := Lib.hid (show Sound P V 0 from ⟨hIP, hvok, Int.le_refl _, by omega⟩)
    have HROK := Lib.hid (show RefOk P V UU 0 from ⟨HSD.out, by omega, HUV.out⟩)
    have hnuI : (nu : Int) ≤ 4 := by omega
    have H4 := Lib.hid (And.intro (Row.of_own (H3.out.1.kept (grown_below hb4 none) (by cases av <;> simp [Value.ownBlock]))) (And.intro (H3.out.2.1.below hb4) (And.intro (H3.out.2.2.1.below hb4) (And.intro HUR.out (below_then H3.out.2.2.2.2.2 hb4)))))
    clear hb4 H3 HUI HUR hTO ht hgp hgp3 hbc hnb hnbI
    refine Lib.hid ?_
    obtain ⟨Lt, hLt⟩ := runT_ex UU V 0 HSD.out HUV.out
    have hll := hLt.len
    have HLT := Lib.hid hLt
    have HTI := Lib.hid (show TasksIs P V UU 0 Lt from .inr ⟨HROK.out, hLt⟩)
    clear hLt
    go_wp2_with (first
      | (refine wpList_load_row rfl 26 _ rfl w1.heap.size rfl _ _ _ _ H4.out.2.1 Try.underlying26 rfl (by kernel_rfl) ?_)
      | (go_at_call 19; (with_reducible refine (impl_reftasks (some ⟨gp, 0, none⟩) n c P HSZ.out hnc _ H4.out.2.2.1 av 8 cv V (by decide) hcv H4.out.1 (some ⟨gu, 0, none⟩) nu cu UU HUS.out hnc4 H4.out.2.2.2.1 0 Lt HTI.out).mono ?_); rintro e w5 ⟨at5, nt, ct, rfl, hown5, hb5⟩; refine Hid.out ?_))
    have hnt : Lt.length = nt := own_len hown5
    obtain rfl : nt = nu := by omega
    have H5 := Lib.hid (And.intro (H4.out.1.below hb5) (And.intro (H4.out.2.1.below hb5) (And.intro (H4.out.2.2.1.below hb5) (And.intro (H4.out.2.2.2.1.below hb5) (And.intro (below_then H4.out.2.2.2.2 hb5) (Row.of_own hown5))))))
    have HG0 := Lib.hid (show 0 < nt → ∃ g, at5 = some ⟨g, 0, none⟩ from fun h0 => by
      obtain ⟨g, _, hv, _⟩ := hown5.form h0
      injection hv with h1; exact ⟨g, h1⟩)
    clear hown5 hb5 H4
    rcases Nat.eq_zero_or_pos nt with h0 | h0
    · subst h0
      refine Lib.hid ?_
      go_wp2
      go_loopw [7] (fun i wr => i = .int .i64 1 ∧ Hid (Below w.heap.size w wr)) (fun _ _ => 0)
      case atStart => exact ⟨rfl, H5.out.2.2.2.2.1⟩
      case round =>
        obtain ⟨rfl, HBB⟩ := hrel
        go_wp2
        go_ret
        exact ⟨rfl, HBB.out⟩
    · obtain ⟨gt, rfl⟩ := HG0.out h0
      have h0I : (0 : Int) < nt := by omega
      have HAT := Lib.hid (show ∀ k, k < nt → ∃ x : Int, Lt[k]? = some x ∧ w5.cell? ⟨gt, k, none⟩ = some (.int .i64 x) ∧ gt < w5.heap.size from fun k hk => by
        obtain ⟨b, off, x, e, hl, hx, hc⟩ := H5.out.2.2.2.2.2.2 k hk
        cases e
        rw [Nat.zero_add] at hc
        exact ⟨x, hx, hc, hl⟩)
      have hx00 : Lt[0]? = some 0 := tasks_at HLT.out (S := []) (k := 0) (R := ⟨V, [], 0⟩) (by omega) (by rw [List.take_zero]; exact .nil _)
      obtain ⟨x0, hx0, hcx0, hgt5⟩ := HAT.out 0 h0
      obtain rfl : x0 = 0 := by rw [hx00] at hx0; exact (Option.some.inj hx0).symm
      refine Lib.hid ?_
      go_wp2
      go_loopw [7] (fun i wr => ∃ k : Nat, 1 ≤ k ∧ k ≤ nt ∧ i = .int .i64 k ∧ Hid (Below w5.heap.size w5 wr)) (fun i _ => nt - (intOf i).toNat)
      case atStart => exact ⟨1, Nat.le_refl _, h0, rfl, Below.refl _ _⟩
      case round =>
        obtain ⟨k, hk1, hk, rfl, HBw⟩ := hrel
        by_cases hlt : k < nt
        · have hI : (k : Int) < nt := by omega
          obtain ⟨x, hx, hcx, _⟩ := HAT.out k hlt
          obtain ⟨R, hR⟩ := runR_ex (UU.take k) ⟨V, [], 0⟩ HSD.out (fun u hu => HUV.out u (List.mem_of_mem_take hu))
          obtain rfl : x = R.T := by
            have := tasks_at HLT.out (k := k) (by omega) hR
            rw [hx] at this; exact Option.some.inj this
          have hc1 : wr.cell? ⟨w1.heap.size, 0, none⟩ = some (.slice (some ⟨gp, 0, none⟩) n c) := (H5.out.2.1.below HBw.out).cell 0
          have hct : wr.cell? ⟨gt, k, none⟩ = some (.int .i64 R.T) := (HBw.out.cell (p := ⟨gt, k, none⟩) hgt5).trans hcx
          have hpl : w1.heap.size < wr.heap.size := (H5.out.2.1.below HBw.out).lt
          have hgtl : gt < wr.heap.size := Nat.lt_of_lt_of_le hgt5 HBw.out.size
          have HD := Lib.hid (show Below wr.heap.size wr wr.drew from Below.drew (Below.refl _ wr))
          have KEEP := Lib.hid (show ∀ w', Below wr.heap.size wr w' → w'.cell? ⟨w1.heap.size, 0, none⟩ = some (.slice (some ⟨gp, 0, none⟩) n c) from fun w' hb => (hb.cell (p := ⟨w1.heap.size, 0, none⟩) hpl).trans hc1)
          have hkcu : k ≤ cu := by omega
          have hcut := cut_hS gu nt cu k hkcu
          have HEF := Lib.hid (show ∀ w', Below wr.heap.size wr w' → Calls Try.prog 17 #[.agg #[.slice (some ⟨gp, 0, none⟩) n c], .int .i64 0, .slice av 8 cv, .slice (some ⟨gu, 0, none⟩) k cu] w' (NewRefB w' true R) from fun w' hb => by
            have hb9 := below_then HBw.out hb
            exact impl_refrun (some ⟨gp, 0, none⟩) n c P HSZ.out hnc w' (H5.out.2.2.1.below hb9) av 8 cv V (by decide) hcv (H5.out.1.below hb9) (some ⟨gu, 0, none⟩) k cu (UU.take k) (ss_take HUS.out k) hkcu ((H5.out.2.2.2.1.below hb9).head (by omega)) 0 true R (.inr ⟨rfl, ⟨HSD.out, by rw [List.length_take]; omega, fun u hu => HUV.out u (List.mem_of_mem_take hu)⟩, hR⟩))
          have HB5 := Lib.hid (below_then H5.out.2.2.2.2.1 HBw.out)
          clear hx hcx hR hc1
          go_wp2
          refine wp_region_held_drew (S := (fun w' => w'.cell? ⟨w1.heap.size, 0, none⟩ = some (.slice (some ⟨gp, 0, none⟩) n c))) (by kernel_rfl) (KEEP.out _ HD.out) (fun hHeld => ?_)
          obtain ⟨y0, hy0⟩ : ∃ z, wr.drew = z := ⟨_, rfl⟩
          have hb0 : Below wr.heap.size wr y0 := by rw [← hy0]; exact HD.out
          rw [hy0] at hHeld ⊢
          clear hy0
          refine wpAnyH_take (i := 0) (v := .agg #[.slice (some ⟨gp, 0, none⟩) n c]) rfl (by kernel_rfl) (by kernel_rfl) (by kernel_rfl) (fun _ _ _ h => h) (Or.inl ⟨by rfl, (by intro w' hSw; (try dsimp only at hSw); go_simp)⟩) (by assumption) ?_
          try simp only [Act.put, List.getElem_toArray, List.getElem_cons_zero, List.setIfInBounds_toArray, List.set_cons_zero, List.set_cons_succ]
          refine wpAnyH_take (i := 1) (v := .slice av 8 cv) rfl (by kernel_rfl) (by kernel_rfl) (by kernel_rfl) (fun _ _ _ h => h) (Or.inl ⟨by rfl, (by intro w' hSw; (try dsimp only at hSw); go_simp)⟩) (by assumption) ?_
          try simp only [Act.put, List.getElem_toArray, List.getElem_cons_zero, List.getElem_cons_succ, List.setIfInBounds_toArray, List.set_cons_zero, List.set_cons_succ]
          refine wpAnyH_take (i := 2) (v := .slice (some ⟨gu, 0, none⟩) nt cu) rfl (by kernel_rfl) (by kernel_rfl) (by kernel_rfl) (fun _ _ _ h => h) (Or.inl ⟨by rfl, (by intro w' hSw; (try dsimp only at hSw); go_simp)⟩) (by assumption) ?_
          try simp only [Act.put, List.getElem_toArray, List.getElem_cons_zero, List.getElem_cons_succ, List.setIfInBounds_toArray, List.set_cons_zero, List.set_cons_succ]
          refine wpAnyH_take (i := 3) (v := .int .i64 (k : Int)) rfl (by kernel_rfl) (by kernel_rfl) (by kernel_rfl) (fun _ _ _ h => h) (Or.inl ⟨by rfl, (by intro w' hSw; (try dsimp only at hSw); go_simp)⟩) (by assumption) ?_
          try simp only [Act.put, List.getElem_toArray, List.getElem_cons_zero, List.getElem_cons_succ, List.setIfInBounds_toArray, List.set_cons_zero, List.set_cons_succ]
          refine wpAnyH_take (i := 4) (v := .slice (some ⟨gu, 0, none⟩) k cu) rfl (by kernel_rfl) (by kernel_rfl) (by kernel_rfl) (fun _ _ _ h => h) (Or.inl ⟨by rfl, (by intro w' hSw; (try dsimp only at hSw); go_simp)⟩) (by assumption) ?_
          try simp only [Act.put, List.getElem_toArray, List.getElem_cons_zero, List.getElem_cons_succ, List.setIfInBounds_toArray, List.set_cons_zero, List.set_cons_succ]
          clear hcut
          refine wpAnyH_ready (rs := [5, 9]) (by kernel_rfl) (by simp) ?_
          refine AllReadyH.cons rfl (fun K hK => ?_) ?_
          rw [if_pos (by kernel_rfl)]
          go_simp
          go_at_call 17
          refine (HEF.out y0 hb0).mono ?_
          rintro e y1 ⟨e1, m1, k1, e2, m2, k2, rfl, hm, hbc⟩
          have hb1 : Below wr.heap.size wr y1 := below_then hb0 hbc
          refine hK.out _ _ (KEEP.out _ hb1) (fun hHeld1 => ?_)
          clear hK K hHeld
          try simp only [Act.put, List.getElem_toArray, List.getElem_cons_zero, List.getElem_cons_succ, List.setIfInBounds_toArray, List.set_cons_zero, List.set_cons_succ]
          refine wpAnyH_take (i := 6) (v := .tuple #[refV e1 m1 k1 e2 m2 k2 R, .bool true]) rfl (by kernel_rfl) (by kernel_rfl) (by kernel_rfl) (fun _ _ _ h => h) (Or.inl ⟨by rfl, (by intro w' hSw; (try dsimp only at hSw); go_simp)⟩) (by assumption) ?_
          try simp only [Act.put, List.getElem_toArray, List.getElem_cons_zero, List.getElem_cons_succ, List.setIfInBounds_toArray, List.set_cons_zero, List.set_cons_succ]
          refine wpAnyH_take (i := 7) (v := refV e1 m1 k1 e2 m2 k2 R) rfl (by kernel_rfl) (by kernel_rfl) (by kernel_rfl) (fun _ _ _ h => h) (Or.inl ⟨by rfl, (by intro w' hSw; (try dsimp only at hSw); go_simp)⟩) (by assumption) ?_
          try simp only [Act.put, List.getElem_toArray, List.getElem_cons_zero, List.getElem_cons_succ, List.setIfInBounds_toArray, List.set_cons_zero, List.set_cons_succ]
          refine wpAnyH_take (i := 8) (v := .bool true) rfl (by kernel_rfl) (by kernel_rfl) (by kernel_rfl) (fun _ _ _ h => h) (Or.inl ⟨by rfl, (by intro w' hSw; (try dsimp only at hSw); go_simp)⟩) (by assumption) ?_
          try simp only [Act.put, List.getElem_toArray, List.getElem_cons_zero, List.getElem_cons_succ, List.setIfInBounds_toArray, List.set_cons_zero, List.set_cons_succ]
          refine wpAnyH_ready (rs := [9]) (by kernel_rfl) (by simp) ?_
          refine AllReadyH.cons rfl (fun K hK => ?_) AllReadyH.nil
          obtain ⟨yn, hyn⟩ : ∃ z, y1.alloc (.cells zero3R 45) = z := ⟨_, rfl⟩
          obtain ⟨gE, hgE⟩ : ∃ g, y1.heap.size = g := ⟨_, rfl⟩
          have hbn : Below wr.heap.size wr yn := by rw [← hyn]; exact below_then hb1 (below_new _ _)
          have hEn : Box gE zero3R 45 yn := by rw [← hyn, ← hgE]; exact Box.new _ _ _
          have hEln : wr.heap.size ≤ gE := by rw [← hgE]; exact hb1.size
          have hVn := (hm.1.mono hb0.size).alloc (.cells zero3R 45)
          rw [hyn] at hVn
          have hSn := (hm.2.1.mono hb0.size).alloc (.cells zero3R 45)
          rw [hyn] at hSn
          have hapn := hm.2.2
          have hVEn := ne_own9 hm.1.lt (.inr (show y1.heap.size ≤ gE by omega))
          have hSEn := ne_own9 hm.2.1.lt (.inr (show y1.heap.size ≤ gE by omega))
          rw [if_pos (by kernel_rfl)]
          go_simp
          (try rw [hyn])
          (try rw [hgE])
          refine hK.out _ _ (KEEP.out _ hbn) (fun hHeldn => ?_)
          try simp only [Act.put, List.getElem_toArray, List.getElem_cons_zero, List.getElem_cons_succ, List.setIfInBounds_toArray, List.set_cons_zero, List.set_cons_succ]
          clear hK K hyn hgE hHeld1 hm hbc hb1 y1 hb0 y0
          revert hSEn
          revert hVEn
          revert hapn
          revert hSn
          revert hVn
          revert hEln
          revert hEn
          revert hbn
          revert hHeldn
          revert k2
          revert m2
          revert e2
          revert k1
          revert m1
          revert e1
          revert gE
          revert yn
          refine ?stoT
          rotate_left
          refine AllReadyH.cons rfl (fun K hK => ?_) ?_
          obtain ⟨y1, hy1⟩ : ∃ z, y0.alloc (.cells zero3R 45) = z := ⟨_, rfl⟩
          obtain ⟨gE, hgE⟩ : ∃ g, y0.heap.size = g := ⟨_, rfl⟩
          have hb1 : Below wr.heap.size wr y1 := by rw [← hy1]; exact below_then hb0 (below_new _ _)
          have hE1 : Box gE zero3R 45 y1 := by rw [← hy1, ← hgE]; exact Box.new _ _ _
          have hEln : wr.heap.size ≤ gE := by rw [← hgE]; exact hb0.size
          rw [if_pos (by kernel_rfl)]
          go_simp
          (try rw [hy1])
          (try rw [hgE])
          refine hK.out _ _ (KEEP.out _ hb1) (fun hHeld1 => ?_)
          try simp only [Act.put, List.getElem_toArray, List.getElem_cons_zero, List.getElem_cons_succ, List.setIfInBounds_toArray, List.set_cons_zero, List.set_cons_succ]
          clear hK K hy1 hgE hHeld
          refine wpAnyH_ready (rs := [5]) (by kernel_rfl) (by simp) ?_
          refine AllReadyH.cons rfl (fun K hK => ?_) AllReadyH.nil
          rw [if_pos (by kernel_rfl)]
          go_simp
          go_at_call 17
          refine (HEF.out y1 hb1).mono ?_
          rintro e yn ⟨e1, m1, k1, e2, m2, k2, rfl, hm, hbc⟩
          have hbn : Below wr.heap.size wr yn := below_then hb1 hbc
          have hEn := hE1.below hbc
          have hVn := hm.1.mono hb1.size
          have hSn := hm.2.1.mono hb1.size
          have hapn := hm.2.2
          have hVEn := ne_own9 hm.1.lt (.inl hE1.lt)
          have hSEn := ne_own9 hm.2.1.lt (.inl hE1.lt)
          refine hK.out _ _ (KEEP.out _ hbn) (fun hHeldn => ?_)
          try simp only [Act.put, List.getElem_toArray, List.getElem_cons_zero, List.getElem_cons_succ, List.setIfInBounds_toArray, List.set_cons_zero, List.set_cons_succ]
          refine wpAnyH_take (i := 6) (v := .tuple #[refV e1 m1 k1 e2 m2 k2 R, .bool true]) rfl (by kernel_rfl) (by kernel_rfl) (by kernel_rfl) (fun _ _ _ h => h) (Or.inl ⟨by rfl, (by intro w' hSw; (try dsimp only at hSw); go_simp)⟩) (by assumption) ?_
          try simp only [Act.put, List.getElem_toArray, List.getElem_cons_zero, List.getElem_cons_succ, List.setIfInBounds_toArray, List.set_cons_zero, List.set_cons_succ]
          refine wpAnyH_take (i := 7) (v := refV e1 m1 k1 e2 m2 k2 R) rfl (by kernel_rfl) (by kernel_rfl) (by kernel_rfl) (fun _ _ _ h => h) (Or.inl ⟨by rfl, (by intro w' hSw; (try dsimp only at hSw); go_simp)⟩) (by assumption) ?_
          try simp only [Act.put, List.getElem_toArray, List.getElem_cons_zero, List.getElem_cons_succ, List.setIfInBounds_toArray, List.set_cons_zero, List.set_cons_succ]
          refine wpAnyH_take (i := 8) (v := .bool true) rfl (by kernel_rfl) (by kernel_rfl) (by kernel_rfl) (fun _ _ _ h => h) (Or.inl ⟨by rfl, (by intro w' hSw; (try dsimp only at hSw); go_simp)⟩) (by assumption) ?_
          try simp only [Act.put, List.getElem_toArray, List.getElem_cons_zero, List.getElem_cons_succ, List.setIfInBounds_toArray, List.set_cons_zero, List.set_cons_succ]
          clear hK K hHeld1 hm hbc hE1 hb1 y1 hb0 y0
          revert hSEn
          revert hVEn
          revert hapn
          revert hSn
          revert hVn
          revert hEln
          revert hEn
          revert hbn
          revert hHeldn
          revert k2
          revert m2
          revert e2
          revert k1
          revert m1
          revert e1
          revert gE
          revert yn
          refine ?stoT
          exact AllReadyH.nil
          intro y gE e1 m1 k1 e2 m2 k2 hHeld hb hE hEl hV hS hap hVE hSE
          refine wpAnyH_ready (rs := [10]) (by kernel_rfl) (by simp) ?_
          refine AllReadyH.cons rfl (fun K hK => ?_) AllReadyH.nil
          have z0 : y.cell? ⟨gE, 0, none⟩ = some (.slice none 0 0) := hE.cell 0
          have f0 : y.frozen? ⟨gE, 0, none⟩ = false := hE.frozen 0
          have z1 : y.cell? ⟨gE, 1, none⟩ = some (.slice none 0 0) := hE.cell 1
          have f1 : y.frozen? ⟨gE, 1, none⟩ = false := hE.frozen 1
          have z2 : y.cell? ⟨gE, 2, none⟩ = some (.int .i64 0) := hE.cell 2
          have f2 : y.frozen? ⟨gE, 2, none⟩ = false := hE.frozen 2
          have hgs : y.grownBy (((y.setCell ⟨gE, 0, none⟩ (.slice e1 m1 k1)).setCell ⟨gE, 1, none⟩ (.slice e2 m2 k2)).setCell ⟨gE, 2, none⟩ (.int .i64 R.T)) (some gE) := grown_trans (grown_trans (grown_setCell _ _ _ _) (grown_setCell _ _ _ _)) (grown_setCell _ _ _ _)
          have hx : Box gE #[.slice e1 m1 k1, .slice e2 m2 k2, .int .i64 R.T] 45 (((y.setCell ⟨gE, 0, none⟩ (.slice e1 m1 k1)).setCell ⟨gE, 1, none⟩ (.slice e2 m2 k2)).setCell ⟨gE, 2, none⟩ (.int .i64 R.T)) := ((hE.set 0 _).set 1 _).set 2 _
          obtain ⟨yn, hyn⟩ : ∃ z, (((y.setCell ⟨gE, 0, none⟩ (.slice e1 m1 k1)).setCell ⟨gE, 1, none⟩ (.slice e2 m2 k2)).setCell ⟨gE, 2, none⟩ (.int .i64 R.T)) = z := ⟨_, rfl⟩
          rw [hyn] at hgs hx
          have hbn : Below wr.heap.size wr yn := hb.grown hgs hb.size (fun q hq => by cases hq; exact hEl)
          have hVn := hV.kept hgs hVE
          have hSn := hS.kept hgs hSE
          rw [if_pos (by kernel_rfl)]
          go_simp
          (try rw [hyn])
          refine hK.out _ _ (KEEP.out _ hbn) (fun hHeldn => ?_)
          clear hK K hyn z0 z1 z2 f0 f1 f2 hHeld
          try simp only [Act.put, List.getElem_toArray, List.getElem_cons_zero, List.getElem_cons_succ, List.setIfInBounds_toArray, List.set_cons_zero, List.set_cons_succ]
          refine wpAnyH_take (i := 11) (v := .bool true) rfl (by kernel_rfl) (by kernel_rfl) (by kernel_rfl) (fun _ _ _ h => h) (Or.inl ⟨by rfl, (by intro w' hSw; (try dsimp only at hSw); go_simp)⟩) (by assumption) ?_
          try simp only [Act.put, List.getElem_toArray, List.getElem_cons_zero, List.getElem_cons_succ, List.setIfInBounds_toArray, List.set_cons_zero, List.set_cons_succ]
          refine wpAnyH_done (by kernel_rfl) ?_ _
          clear hHeldn hgs hE hV hS hb
          have q2 : yn.cell? ⟨gE, 2, none⟩ = some (.int .i64 R.T) := hx.cell 2
          have qt : yn.cell? ⟨gt, k, none⟩ = some (.int .i64 R.T) := (hbn.cell (p := ⟨gt, k, none⟩) hgtl).trans hct
          have q2d : yn.drew.cell? ⟨gE, 2, none⟩ = some (.int .i64 R.T) ∧ yn.drew.cell? ⟨gt, k, none⟩ = some (.int .i64 R.T) := ⟨q2, qt⟩
          have HBn := Lib.hid (below_then HBw.out hbn)
          clear hx hVn hSn KEEP HEF HD hap hVE hSE hct
          go_wp2
          refine wp_region_held_drew (S := fun w' => w'.cell? ⟨gE, 2, none⟩ = some (.int .i64 R.T) ∧ w'.cell? ⟨gt, k, none⟩ = some (.int .i64 R.T)) (by kernel_rfl) q2d (fun hHeld => ?_)
          refine wpAnyH_take (i := 0) (v := .bool true) rfl (by kernel_rfl) (by kernel_rfl) (by kernel_rfl) (fun _ _ _ h => h) (Or.inl ⟨by rfl, (by intro w' hSw; (try dsimp only at hSw); go_simp)⟩) (by assumption) ?_
          try simp only [Act.put, List.getElem_toArray, List.getElem_cons_zero, List.setIfInBounds_toArray, List.set_cons_zero, List.set_cons_succ]
          refine wpAnyH_take (i := 1) (v := .bool false) rfl (by kernel_rfl) (by kernel_rfl) (by kernel_rfl) (fun _ _ _ h => h) (Or.inl ⟨by rfl, (by intro w' hSw; (try dsimp only at hSw); go_simp)⟩) (by assumption) ?_
          try simp only [Act.put, List.getElem_toArray, List.getElem_cons_zero, List.getElem_cons_succ, List.setIfInBounds_toArray, List.set_cons_zero, List.set_cons_succ]
          refine wpAnyH_take (i := 2) (v := .bool false) rfl (by kernel_rfl) (by kernel_rfl) (by kernel_rfl) (fun _ _ _ h => h) (Or.inl ⟨by rfl, (by intro w' hSw; (try dsimp only at hSw); go_simp)⟩) (by assumption) ?_
          try simp only [Act.put, List.getElem_toArray, List.getElem_cons_zero, List.getElem_cons_succ, List.setIfInBounds_toArray, List.set_cons_zero, List.set_cons_succ]
          refine wpAnyH_take (i := 3) (v := .pointer (some ⟨gE, 2, none⟩)) rfl (by kernel_rfl) (by kernel_rfl) (by kernel_rfl) (fun _ _ _ h => h) (Or.inl ⟨by rfl, (by intro w' hSw; (try dsimp only at hSw); go_simp)⟩) (by assumption) ?_
          try simp only [Act.put, List.getElem_toArray, List.getElem_cons_zero, List.getElem_cons_succ, List.setIfInBounds_toArray, List.set_cons_zero, List.set_cons_succ]
          refine wpAnyH_take (i := 4) (v := .int .i64 R.T) rfl (by kernel_rfl) (by kernel_rfl) (by kernel_rfl) (fun _ _ _ h => h) (Or.inl ⟨by rfl, (by intro w' hSw; (try dsimp only at hSw); go_simp)⟩) (by assumption) ?_
          try simp only [Act.put, List.getElem_toArray, List.getElem_cons_zero, List.getElem_cons_succ, List.setIfInBounds_toArray, List.set_cons_zero, List.set_cons_succ]
          refine wpAnyH_take (i := 5) (v := .slice (some ⟨gt, 0, none⟩) nt ct) rfl (by kernel_rfl) (by kernel_rfl) (by kernel_rfl) (fun _ _ _ h => h) (Or.inl ⟨by rfl, (by intro w' hSw; (try dsimp only at hSw); go_simp)⟩) (by assumption) ?_
          try simp only [Act.put, List.getElem_toArray, List.getElem_cons_zero, List.getElem_cons_succ, List.setIfInBounds_toArray, List.set_cons_zero, List.set_cons_succ]
          refine wpAnyH_take (i := 6) (v := .int .i64 (k : Int)) rfl (by kernel_rfl) (by kernel_rfl) (by kernel_rfl) (fun _ _ _ h => h) (Or.inl ⟨by rfl, (by intro w' hSw; (try dsimp only at hSw); go_simp)⟩) (by assumption) ?_
          try simp only [Act.put, List.getElem_toArray, List.getElem_cons_zero, List.getElem_cons_succ, List.setIfInBounds_toArray, List.set_cons_zero, List.set_cons_succ]
          refine wpAnyH_take (i := 7) (v := .pointer (some ⟨gt, k, none⟩)) rfl (by kernel_rfl) (by kernel_rfl) (by kernel_rfl) (fun _ _ _ h => h) (Or.inl ⟨by rfl, (by intro w' hSw; (try dsimp only at hSw); go_simp)⟩) (by assumption) ?_
          try simp only [Act.put, List.getElem_toArray, List.getElem_cons_zero, List.getElem_cons_succ, List.setIfInBounds_toArray, List.set_cons_zero, List.set_cons_succ]
          refine wpAnyH_take (i := 8) (v := .int .i64 R.T) rfl (by kernel_rfl) (by kernel_rfl) (by kernel_rfl) (fun _ _ _ h => h) (Or.inl ⟨by rfl, (by intro w' hSw; (try dsimp only at hSw); go_simp)⟩) (by assumption) ?_
          try simp only [Act.put, List.getElem_toArray, List.getElem_cons_zero, List.getElem_cons_succ, List.setIfInBounds_toArray, List.set_cons_zero, List.set_cons_succ]
          refine wpAnyH_take (i := 9) (v := .bool false) rfl (by kernel_rfl) (by kernel_rfl) (by kernel_rfl) (fun _ _ _ h => h) (Or.inl ⟨by rfl, (by intro w' hSw; (try dsimp only at hSw); go_simp)⟩) (by assumption) ?_
          try simp only [Act.put, List.getElem_toArray, List.getElem_cons_zero, List.getElem_cons_succ, List.setIfInBounds_toArray, List.set_cons_zero, List.set_cons_succ]
          refine wpAnyH_take (i := 10) (v := .bool false) rfl (by kernel_rfl) (by kernel_rfl) (by kernel_rfl) (fun _ _ _ h => h) (Or.inl ⟨by rfl, (by intro w' hSw; (try dsimp only at hSw); go_simp)⟩) (by assumption) ?_
          try simp only [Act.put, List.getElem_toArray, List.getElem_cons_zero, List.getElem_cons_succ, List.setIfInBounds_toArray, List.set_cons_zero, List.set_cons_succ]
          refine wpAnyH_done (by kernel_rfl) ?_ _
          have HBD := Lib.hid (HBn.out.trans ((Below.drew (Below.refl _ yn)).mono HBn.out.size))
          clear hHeld q2 qt q2d hbn
          obtain ⟨z9, hz9⟩ : ∃ z, yn.drew = z := ⟨_, rfl⟩
          rw [hz9] at HBD ⊢
          clear hz9
          go_wp2
          go_roundw
          case rel => exact ⟨k + 1, by omega, by omega, by go_num, HBD.out⟩
          case measure => simp [intOf]; omega
        · obtain rfl : k = nt := by omega
          have hI : ¬ (k : Int) < k := by omega
          go_wp2
          go_ret
          exact ⟨rfl, below_then H5.out.2.2.2.2.1 HBw.out⟩

/-! ### THE ROW's STEP: WRITTEN OUT: LEAVE IT -/
set_option maxRecDepth 100000 in
theorem lifted (os : Os) (started : os.Started) (H : Type) (enc : TypeId × Value → H) :
    ReturnsInHanded {} Try.checked os 6 .any (Rows.fnRefTasksSpec.pre6 enc Try.prog Try.f6 Rows.fnRefTasksRow.domain false) (Rows.fnRefTasksSpec.post enc Try.prog Try.f6 false true false false) := by
  refine returnsInHanded_of_change (C := Try.checked) own started (by kernel_rfl) Try.func6
    (ChangeSpec.witness6 (enc := enc) (C := Try.checked) false ⟨#[], #[.slice none 0 0], []⟩ 8 (by kernel_rfl) (by kernel_rfl) (by kernel_rfl) (by kernel_rfl)) ?_
  intro W base args ds gs before hval0 hW hcnd _
  have hval : ∀ (j : Nat) t v, Try.f6.params[j]? = some t → args[j]? = some v → Value.okWide Try.prog W .any base t v := hval0
  have hW' := hW
  obtain ⟨p, q, hA0, hV, rfl, hfz, hnd⟩ := hW
  have hA : DataW.TrodAll enc Try.prog W 0 (fun _ => true) true Try.f6.params.toList args.toList ds p := hA0
  rw [Try.params6] at hA hval
  obtain ⟨v0, vs0, d0, ds0, p0, q0, hargs, rfl, rfl, h0, r0⟩ := trodAll_cons hA
  obtain ⟨rfl, rfl, rfl⟩ := trodAll_nil r0
  obtain rfl : args = #[v0] := by cases args; simp_all
  obtain ⟨rfl, rfl⟩ := trodVars_none hV
  obtain ⟨a0, len0, cap0, rfl⟩ := okWide_slice Try.underlying22 (hval 0 22 v0 rfl rfl)
  have k0 := h0
  have lt0 : ∀ x ∈ p0, x.block < W.heap.size := by obtain ⟨m, hm⟩ := k0; exact DataW.trod_lt m _ _ _ hm
  obtain ⟨z0, w0⟩ : ∃ zs, IsRow .u8 W a0 len0 cap0 zs := by
    obtain ⟨fuel, hf⟩ := h0
    rcases open_ints Try.underlying22 Try.underlying5 (by kernel_rfl) hf with ⟨hcs, _⟩ | ⟨x, l, c, zs, hcs, _, hl, hm, hz, _, hcell, hwz⟩
    · simp [Value.cells] at hcs
      obtain ⟨rfl, rfl, rfl⟩ := hcs
      exact ⟨[], .inl ⟨rfl, rfl, rfl, rfl⟩⟩
    · simp [Value.cells] at hcs
      obtain ⟨rfl, rfl, rfl⟩ := hcs
      exact ⟨zs, .inr ⟨_, rfl, hl, hm, by simpa using hz, hcell, hwz⟩⟩
  clear hA0 hval0
  refine (walk a0 len0 cap0 z0 W w0).mono fun e W' ⟨he, bel⟩ => ?_
  subst he
  exact ⟨_, rfl, _, _, _, [], _, [], hW', trodAll_mk1 (shut_bool Try.underlying4 _), (trodAll_cons_mk (Below.trod laidOut (by kernel_rfl) (of_decide_eq_true (by kernel_rfl)) k0 bel lt0) trodAll_mk0), rfl, bel.frame _, fun h => by cases h⟩

theorem over : Rows.fnRefTasksRow.holds Try.pinned (OpenSpec.ofChange Rows.fnRefTasksSpec) :=
  OpenClaim.holds_of_wide 6 Try.f6 rfl rfl rfl rfl rfl rfl rfl ⟨rfl, rfl, rfl, rfl, rfl⟩ rfl rfl rfl rfl rfl (by kernel_rfl) Try.func6 (by kernel_rfl)
    (of_decide_eq_true (by kernel_rfl)) (by unfold Func.isWrapper; first | (rw [if_pos (by decide +kernel)]; kernel_rfl) | (rw [if_neg (by decide +kernel)]; exact ⟨rfl, rfl⟩))
    (fun os started H enc _ => lifted os started H enc)

/-- ████ THE STATEMENT ████ -/
theorem proved : Rows.FnRefTasksSaid := over
#print axioms proved
end Go.Proofs.Ytekdnhhmiabngaa.fnRefTasks
