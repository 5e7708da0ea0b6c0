/- For every input the law FnSenses returns true and leaves its argument as it was; no condition. -/
import Derived.Test.YtekdnhhmiabngaaRows
import Derived.WalkKit
import Derived.ProofKit
import Derived.OpenShut
import Derived.ShutString
import Derived.ChangeOld
import Derived.Below
import Derived.Test.YtekdnhhmiabngaaGHub33
import Derived.Test.YtekdnhhmiabngaaGHub35
import Derived.Test.YtekdnhhmiabngaaGHub39
import Derived.Test.YtekdnhhmiabngaaGHub36
import Derived.Test.YtekdnhhmiabngaaGHub34
import Derived.Test.YtekdnhhmiabngaaGHub0
import Derived.Test.YtekdnhhmiabngaaGHub16
import Derived.Test.YtekdnhhmiabngaaGHub22
import Derived.Test.YtekdnhhmiabngaaGHub29
import Derived.Test.YtekdnhhmiabngaaGHub18
import Derived.Test.YtekdnhhmiabngaaGHub40
import Derived.Deep.RegionHeld3
import Derived.Deep.RegionLaw
import Derived.Deep.AppendLies
namespace Go.Proofs.Ytekdnhhmiabngaa.fnSenses
open Go.ChangeShapes Go.WideShapes Go.ChangeAt Go.RowKit
open Go.ChangeMaps (open_string shut_string)
set_option linter.unusedVariables false

theorem own : ownKnob Try.prog.godebug = none := by kernel_rfl
theorem laidOut : laidOutB Try.prog = true := by kernel_rfl

/-- WHAT THE WALK IS TOLD OF A SLICE OF INTEGERS THAT CAME IN: it is nil; or it leads to a row of 'cap' cells, the numbers 'zs' (the first 'len' are its elements, the rest its spare room), each fitting its kind. -/
def IsRow (k : IntKind) (w : World) (a : Option Addr) (len cap : Nat) (zs : List Int) : Prop :=
  (a = none ∧ len = 0 ∧ cap = 0 ∧ zs = []) ∨
  ∃ x, a = some x ∧ len ≤ cap ∧ cap ≤ maxLen ∧ zs.length = cap ∧ (∀ i, i < zs.length → w.cell? (x.add i) = some (.int k (zs.getD i 0))) ∧ ∀ n ∈ zs, (Lit.int k n).wf = true

open Go.Proofs.Ytekdnhhmiabngaa.row Go.Proofs.Ytekdnhhmiabngaa.val Go.Proofs.Ytekdnhhmiabngaa.expr Go.Proofs.Ytekdnhhmiabngaa.stm Go.Proofs.Ytekdnhhmiabngaa.cur Go.Proofs.Ytekdnhhmiabngaa.blk Go.Proofs.Ytekdnhhmiabngaa.prg Go.Proofs.Ytekdnhhmiabngaa.exe
theorem rng_below {w w' : World} {g o : Nat} {cs : List Value} (h : w.rangeAt g o cs) (hg : g < w.heap.size) (hb : Below w.heap.size w w') : w'.rangeAt g o cs := fun j v hj => (hb.cell (p := ⟨g, o + j, none⟩) hg).trans (h j v hj)
theorem sizes_drawn {P : List Tk} (hl : P.length ≤ 3) (h : ∀ t ∈ P, TkOk t) : Sizes P := ⟨by omega, fun t ht => by have := (h t ht).2.1; omega⟩
theorem prg_drawn {P : List Tk} (h1 : 1 ≤ P.length) (hl : P.length ≤ 3) (h : ∀ t ∈ P, TkOk t) : IsPrg P := ⟨h1, by omega, fun t ht => ⟨(h t ht).1, (h t ht).2.2⟩⟩
theorem rdg_val {R : List Int} (h : RdgIn R) : allV R = true := (allV_iff R).2 fun q hq => by have := h q hq; exact isVal_in (by omega) (by omega)
theorem own_slice8 {w : World} {B : Nat} {ty : TypeId} {z : Nat} {v : Value} {n : Nat} {xs : List Value} (h : w.ownsRow B ty z v n xs) : ∃ ad cap, v = .slice ad n cap := by
  rcases h.2 with ⟨e, e0⟩ | ⟨g, c, _, e, _⟩
  · exact ⟨_, _, by rw [e, e0]⟩
  · exact ⟨_, _, e⟩
theorem made_ati (w : World) (k B : Nat) (hk : w.heap.size = k) (hB : B ≤ k) (e : TypeId) : (w.alloc (.cells #[] e)).ownsRow B e 1 (.slice (some ⟨k, 0, none⟩) 0 0) 0 [] := by
  subst hk; exact World.ownsRow_made w #[] 0 hB (Nat.zero_le _) rfl
theorem news_int {w w' : World} {b off n : Nat} {A : List Int} (h : Row w (some ⟨b, off, none⟩) n A) (hb : Below w.heap.size w w') : ∀ j u, (ivs A)[j]? = some u → w'.cell? ((⟨b, off, none⟩ : Addr).add j) = some u := by
  intro j u hj
  have hjl : j < n := by have := (List.getElem?_eq_some_iff.1 hj).1; rw [ivs_length] at this; have := h.1; omega
  obtain ⟨b', off', x, e, hlt, hx, hc⟩ := h.2 j hjl
  cases e
  rw [Addr.add_mid, hb.cell (p := ⟨b, off + j, none⟩) hlt, hc]
  simp [ivs, hx] at hj
  rw [hj]
theorem ivs_oneC (A : List Int) : ∀ u ∈ ivs A, u.oneCell' = true := by
  intro u hu
  obtain ⟨x, _, rfl⟩ := List.mem_map.1 hu
  rfl
theorem ne_own {v : Value} {a b g : Nat} (h : ∀ q, v.ownBlock = some q → a ≤ q ∧ q < b) (hg : g < a ∨ b ≤ g) : v.ownBlock = none ∨ v.ownBlock ≠ some g := by
  cases hq : v.ownBlock with
  | none => exact .inl rfl
  | some q => right; intro e; have := h q hq; have := Option.some.inj e; omega
set_option maxHeartbeats 8000000 in
set_option maxRecDepth 100000 in
theorem walk (a0 : Option Addr) (len0 cap0 : Nat) (z0 : List Int) (w : World) (w0 : IsRow .u8 w a0 len0 cap0 z0) :
    Calls Try.prog 4 #[.slice a0 len0 cap0] w fun e w' => e = .returned (.bool true) ∧ Below w.heap.size w w' := by
  obtain ⟨i0, hi, hz0, hz1, hz2⟩ := info_parts row.infoInt
  have HB : Hid (∀ i : Nat, i < len0 → ∃ (b off : Nat) (v : Int), a0 = some ⟨b, off, none⟩ ∧ w.cell? ⟨b, off + i, none⟩ = some (.int .u8 v)) := by
    intro i hi
    rcases w0 with ⟨_, h0, _⟩ | ⟨x, rfl, hl, _, hz, hcell, _⟩
    · omega
    · obtain ⟨b, off, rfl, hc⟩ := ints_at hcell (by omega)
      exact ⟨b, off, _, rfl, hc i (by omega)⟩
  have HB2 : Hid (∀ w1 : World, Below w.heap.size w w1 → ∀ i : Nat, i < len0 → ∃ (b off : Nat) (v : Int), a0 = some ⟨b, off, none⟩ ∧ w1.cell? ⟨b, off + i, none⟩ = some (.int .u8 v)) := by
    intro w1 hb1 i hi
    obtain ⟨b, off, v, ha, hv⟩ := HB.out i hi
    exact ⟨b, off, v, ha, (hb1.cell (World.block_lt_of_cell? w _ hv)).trans hv⟩
  clear w0
  by_cases hbig : (1048576 : Int) < len0
  · go_enter Try.func4, Try.ntmps4
    go_wp2_with (go_at_call 7; refine (big_yes _ _ _ _ hbig).mono ?_; rintro e w1 ⟨rfl, rfl⟩)
    go_ret
    exact ⟨rfl, Below.refl _ _⟩
  · have hsm : (len0 : Int) ≤ 1048576 := by omega
    clear hbig
    go_enter Try.func4, Try.ntmps4
    go_wp2_with (first
      | (go_at_call 7; refine (big_no _ _ _ _ hsm).mono ?_; rintro e w1 ⟨rfl, rfl⟩)
      | (go_at_call 8; refine (drawprogram_any _ _ _ _ hsm HB.out).mono ?_; rintro e w1 ⟨ad, n, c, P, rfl, hn1, hn3, hnc, HOK, HR, hb1⟩; refine Hid.out ?_))
    have HA1 := Lib.hid (And.intro (Box.new w1 #[.slice none 0 0] 26) (below_new w1 (.cells #[.slice none 0 0] 26)))
    obtain ⟨gp, t, gb, nb, cb, rfl, _, hgp, ht, hrg, hbc, _, hrow⟩ := HR.out.2 0 (by omega)
    have hPl : P.length = n := HR.out.1
    have HB1 := Lib.hid (And.intro hb1 (And.intro HR.out.row (And.intro hrg hrow)))
    have hIP : IsPrg P := prg_drawn (by omega) (by omega) HOK.out
    have HSZ := Lib.hid (sizes_drawn (show P.length ≤ 3 by omega) HOK.out)
    have hTO := HOK.out t (List.mem_of_getElem? ht)
    have hnb : t.b.length = nb := hrow.1
    have hnbI : (nb : Int) ≤ 20 := by have := hTO.2.1; omega
    clear hb1 HR hrg hrow
    refine Lib.hid ?_
    go_wp2_with ((refine wpList_store_box rfl 26 _ _ rfl w1.heap.size _ _ HA1.out.1 #[.slice (some ⟨gp, 0, none⟩) n c] rfl rfl rfl (by kernel_rfl) (by simp [Value.oneCell']) ?_); intro w2 hx2 hg2; refine Hid.out ?_)
    have hb2 : Below w1.heap.size w1 w2 := HA1.out.2.grown hg2 HA1.out.2.size (fun j hj => by cases hj; exact Nat.le_refl _)
    have H2 := Lib.hid (And.intro hx2 (And.intro (HB1.out.2.1.below hb2) (And.intro (rng_below HB1.out.2.2.1 hgp hb2) (And.intro (HB1.out.2.2.2.below hb2) (below_then HB1.out.1 hb2)))))
    clear hx2 hg2 hb2 HA1 HB1
    refine Lib.hid ?_
    go_wp2_with (go_at_call 9; refine (vars_any _ _ _ _ hsm (HB2.out _ H2.out.2.2.2.2)).mono ?_; rintro e w3 ⟨av, cv, V, rfl, HVL, HVV, hown3, hb3⟩; refine Hid.out ?_)
    have hvok : varsOk V = true := (varsOk_iff V).2 ⟨HVL.out, HVV.out⟩
    have hcv : 8 ≤ cv := own_le hown3
    have H3 := Lib.hid (And.intro hown3 (And.intro (H2.out.1.below hb3) (And.intro (H2.out.2.1.below hb3) (And.intro (rng_below H2.out.2.2.1 (Nat.lt_of_lt_of_le hgp (Nat.le_of_lt H2.out.1.lt)) hb3) (And.intro (H2.out.2.2.2.1.below hb3) (below_then H2.out.2.2.2.2 hb3))))))
    have hgp3 : gp < w3.heap.size := Nat.lt_of_lt_of_le hgp (Nat.le_trans (Nat.le_of_lt H2.out.1.lt) hb3.size)
    clear hown3 hb3 H2 HVL HVV
    refine Lib.hid ?_
    go_wp2_with (go_at_call 10; refine (readings_any _ _ _ _ hsm (HB2.out _ H3.out.2.2.2.2.2)).mono ?_; rintro e w4 ⟨vr, R, rfl, hR1, hR9, HRG, hown4, hb4⟩; refine Hid.out ?_)
    obtain ⟨gr, cr, rfl, _, _, _⟩ := own_atI hown4 (k := 0) (by omega)
    have hcr : R.length ≤ cr := own_le hown4
    have hRv : allV R = true := rdg_val HRG.out
    have H4 := Lib.hid (And.intro (H3.out.1.kept (grown_below hb4 none) (by cases av <;> simp [Value.ownBlock])) (And.intro (H3.out.2.1.below hb4) (And.intro (H3.out.2.2.1.below hb4) (And.intro (rng_below H3.out.2.2.2.1 hgp3 hb4) (And.intro (H3.out.2.2.2.2.1.below hb4) (And.intro (below_then H3.out.2.2.2.2.2 hb4) hown4))))))
    have hgp4 : gp < w4.heap.size := Nat.lt_of_lt_of_le hgp3 hb4.size
    have hRI : (R.length : Int) ≤ 1048576 := by omega
    clear hown4 hb4 H3
    refine Lib.hid ?_
    go_wp2_with (go_at_call 13; refine (places_any _ _ _ _ hsm (HB2.out _ H4.out.2.2.2.2.2.1)).mono ?_; rintro e w5 ⟨v5, Z, rfl, hl, HZ, hown5, hb5⟩; refine Hid.out ?_)
    obtain ⟨g5, c5, rfl, hbg5, hlg5, x0, hx0, hcx0⟩ := own_atI hown5 (k := 0) (by omega)
    have hx0' := HZ.out x0 (List.mem_of_getElem? hx0)
    obtain ⟨z, hz⟩ : ∃ z, x0 % 50 = z := ⟨_, rfl⟩
    have hzz : 0 ≤ z ∧ z < 50 := by omega
    have ht50 : x0.tmod 50 = z := by rw [Int.tmod_eq_emod_of_nonneg hx0'.1]; exact hz
    have H5 := Lib.hid (And.intro (H4.out.1.kept (grown_below hb5 none) (by cases av <;> simp [Value.ownBlock])) (And.intro (H4.out.2.1.below hb5) (And.intro (H4.out.2.2.1.below hb5) (And.intro (below_then H4.out.2.2.2.2.2.1 hb5) (H4.out.2.2.2.2.2.2.kept (grown_below hb5 none) (by simp [Value.ownBlock]))))))
    obtain ⟨U, hU⟩ := sensIs_ex P V R 0 z
    obtain ⟨r, E, hE⟩ := effIs_ex P V (U ++ [5, 7]) 0
    obtain ⟨r2, E2, hE2⟩ := effIs_ex P V U 0
    have hss := senses_same hIP hvok hU (by omega) hRv (W := [5, 7]) (by decide) hE
    obtain rfl := hss.1
    obtain rfl := hss.2.2.2 r2 E2 hE2
    obtain ⟨t9, T, ht9, hTA⟩ := taskAt_ex (j := 0) (Y := R) hIP hvok hRv (by omega)
    have hUl : U.length ≤ 3000 := by
      rcases hU with ⟨h, _⟩ | ⟨_, t', T', h, e⟩
      · rw [h]; simp
      · rw [e]; have := h.small (liveSrc R z); omega
    have hr2 : r2 = true := by
      rcases hE2 with ⟨_, _, h⟩ | ⟨h, _⟩
      · rcases h with h | h | h | h | h
        · exact absurd hIP h
        · rw [hvok] at h; cases h
        · rw [hss.2.2.1] at h; cases h
        · omega
        · have := hIP.1; omega
      · exact h
    subst hr2
    have hEb : E2.V.length ≤ 8 ∧ E2.S.length ≤ 3000 := by
      rcases hE2 with ⟨_, e, _⟩ | ⟨_, t', T', h, e⟩
      · rw [e]; simp [zeroEff]
      · rw [e]
        have h2 := h.small (listSrc U)
        have h3 := (h.good (listSrc_val h.2.2.1)).1
        have h4 := ((varsOk_iff _).1 h3).1
        simp only [effOf]; omega
    have HU := Lib.hid hU
    have HE := Lib.hid hE
    have HE2 := Lib.hid hE2
    have hEU : E2.U = U.length := hss.2.1
    clear hU hE hE2 hss hTA ht9 hown5 hb5 H4 hz HRG
    refine Lib.hid ?_
    go_wp2_with (first
      | (refine wpList_load_row rfl 26 _ rfl w1.heap.size rfl _ _ _ _ H5.out.2.1 Try.underlying26 rfl (by kernel_rfl) ?_)
      | (go_at_call 14; (with_reducible refine (impl_sensesof (some ⟨gp, 0, none⟩) n c P HSZ.out hnc _ H5.out.2.2.1 av 8 cv V (by decide) hcv (Row.of_own H5.out.1) (some ⟨gr, 0, none⟩) R.length cr R hRI hcr (Row.of_own H5.out.2.2.2.2) 0 z U HU.out).mono ?_); rintro e w6 ⟨au, nu, cu, rfl, hown6, hb6⟩; refine Hid.out ?_))
    have hnu : U.length = nu := own_len hown6
    have hcu : nu ≤ cu := own_le hown6
    have H6 := Lib.hid (And.intro (H5.out.1.kept (grown_below hb6 none) (by cases av <;> simp [Value.ownBlock])) (And.intro (H5.out.2.1.below hb6) (And.intro (H5.out.2.2.1.below hb6) (And.intro (below_then H5.out.2.2.2.1 hb6) hown6))))
    have hnuI : (nu : Int) ≤ 1048576 := by omega
    clear hown6 hb6 H5
    refine Lib.hid ?_
    go_wp2_with (first
      | (refine wpList_load_row rfl 26 _ rfl w1.heap.size rfl _ _ _ _ H6.out.2.1 Try.underlying26 rfl (by kernel_rfl) ?_)
      | (go_at_call 12; (with_reducible refine (impl_taskeffect (some ⟨gp, 0, none⟩) n c P HSZ.out hnc _ H6.out.2.2.1 av 8 cv V (by decide) hcv (Row.of_own H6.out.1) au nu cu U hnuI hcu (Row.of_own H6.out.2.2.2.2) 0 true E2 HE2.out).mono ?_); rintro e w7 ⟨a1, m1, k1, a2, m2, k2, rfl, hm, hb7⟩; refine Hid.out ?_))
    have hvl : E2.V.length = m1 := own_len hm.1
    have hsl : E2.S.length = m2 := own_len hm.2.1
    have hn1 : (m1 : Int) ≤ 1048576 := by omega
    have hn2 : (m2 : Int) ≤ 1048576 := by omega
    have hA7 := Box.new w7 zero4E 37
    have hB7 := below_new w7 (.cells zero4E 37)
    have H7 := Lib.hid (And.intro hA7 (And.intro hB7 (And.intro (H6.out.1.kept (grown_below hb7 none) (by cases av <;> simp [Value.ownBlock])) (And.intro (H6.out.2.1.below hb7) (And.intro (H6.out.2.2.1.below hb7) (And.intro (below_then H6.out.2.2.2.1 hb7) (And.intro (H6.out.2.2.2.2.kept (grown_below hb7 none) (by cases au <;> simp [Value.ownBlock])) (And.intro (Row.of_own hm.1) (Row.of_own hm.2.1)))))))))
    clear hm hb7 hA7 hB7 H6
    refine Lib.hid ?_
    go_wp2_with ((refine wpList_store_box rfl 37 _ _ rfl w7.heap.size _ _ H7.out.1 #[.slice a1 m1 k1, .slice a2 m2 k2, .int .i64 E2.N, .int .i64 E2.U] rfl rfl rfl (by kernel_rfl) (by simp [Value.oneCell']) ?_); intro w8 hx8 hg8; refine Hid.out ?_)
    have hb8 : Below w7.heap.size w7 w8 := H7.out.2.1.grown hg8 H7.out.2.1.size (fun j hj => by cases hj; exact Nat.le_refl _)
    have H8 := Lib.hid (And.intro hx8 (And.intro (H7.out.2.2.1.kept (grown_below hb8 none) (by cases av <;> simp [Value.ownBlock])) (And.intro (H7.out.2.2.2.1.below hb8) (And.intro (H7.out.2.2.2.2.1.below hb8) (And.intro (below_then H7.out.2.2.2.2.2.1 hb8) (And.intro (H7.out.2.2.2.2.2.2.1.kept (grown_below hb8 none) (by cases au <;> simp [Value.ownBlock])) (And.intro (H7.out.2.2.2.2.2.2.2.1.below hb8) (H7.out.2.2.2.2.2.2.2.2.below hb8))))))))
    clear hx8 hg8 hb8 H7
    have HD8 := Lib.hid (show Below w8.heap.size w8 w8.drew from Below.drew (Below.refl _ w8))
    have hpl : w1.heap.size < w8.heap.size := H8.out.2.2.1.lt
    have c0 : w8.drew.cell? ⟨w1.heap.size, 0, none⟩ = some (.slice (some ⟨gp, 0, none⟩) n c) := H8.out.2.2.1.cell 0
    have hb9 : Below w8.heap.size w8 (w8.drew.alloc (.cells #[] 3)) := below_then HD8.out (below_new w8.drew _)
    have c1 : (w8.drew.alloc (.cells #[] 3)).cell? ⟨w1.heap.size, 0, none⟩ = some (.slice (some ⟨gp, 0, none⟩) n c) := (hb9.cell (p := ⟨w1.heap.size, 0, none⟩) hpl).trans (H8.out.2.2.1.cell 0)
    have hm9 : (w8.drew.alloc (.cells #[] 3)).ownsRow w8.heap.size 3 1 (.slice (some ⟨w8.heap.size, 0, none⟩) 0 0) 0 [] := made_ati w8.drew w8.heap.size w8.heap.size rfl (Nat.le_refl _) _
    rcases H8.out.2.2.2.2.2.1.2 with ⟨he, he0⟩ | ⟨gu, cc, cur, hv, hgu0, hgu1, _⟩
    · injection he with h1 h2 h3
      subst h1 h2 h3
      obtain rfl : U = [] := List.length_eq_zero_iff.1 hnu
      have HEY := Lib.hid (show EffIs P V [5, 7] 0 true E2 from HE.out)
      have hcmp : (E2.U == (0 : Int)) = true := by rw [hEU]; simp
      clear hEU
      refine Lib.hid ?_
      go_wp2
      refine wp_region_held_drew (S := fun w' => w'.cell? ⟨w1.heap.size, 0, none⟩ = some (.slice (some ⟨gp, 0, none⟩) n c)) (by kernel_rfl) c0 (fun hHeld => ?_)
      obtain ⟨y0, hy0⟩ : ∃ y, w8.drew = y := ⟨_, rfl⟩
      have hb0 : Below w8.heap.size w8 y0 := by rw [← hy0]; exact HD8.out
      rw [hy0] at hHeld ⊢
      clear hy0
      refine wpAnyH_take (i := 0) (v := .agg #[.slice (some ⟨gp, 0, none⟩) n c]) rfl (by kernel_rfl) (by kernel_rfl) (by kernel_rfl) (fun _ _ _ h => h) (Or.inl ⟨by rfl, (by intro w' hSw; (try dsimp only at hSw); go_simp)⟩) (by assumption) ?_
      try simp only [Act.put, List.getElem_toArray, List.getElem_cons_zero, List.setIfInBounds_toArray, List.set_cons_zero, List.set_cons_succ]
      refine wpAnyH_take (i := 1) (v := .slice av 8 cv) rfl (by kernel_rfl) (by kernel_rfl) (by kernel_rfl) (fun _ _ _ h => h) (Or.inl ⟨by rfl, (by intro w' hSw; (try dsimp only at hSw); go_simp)⟩) (by assumption) ?_
      try simp only [Act.put, List.getElem_toArray, List.getElem_cons_zero, List.getElem_cons_succ, List.setIfInBounds_toArray, List.set_cons_zero, List.set_cons_succ]
      refine wpAnyH_take (i := 3) (v := .slice none 0 0) rfl (by kernel_rfl) (by kernel_rfl) (by kernel_rfl) (fun _ _ _ h => h) (Or.inl ⟨by rfl, (by intro w' hSw; (try dsimp only at hSw); go_simp)⟩) (by assumption) ?_
      try simp only [Act.put, List.getElem_toArray, List.getElem_cons_zero, List.getElem_cons_succ, List.setIfInBounds_toArray, List.set_cons_zero, List.set_cons_succ]
      clear c0 c1 hb9 hm9 HD8
      revert hHeld
      revert hb0
      revert y0
      intro y hb hHeld
      refine wpAnyH_ready (rs := [2, 5, 11]) (by kernel_rfl) (by simp) ?_
      refine AllReadyH.cons rfl (fun K hK => ?_) ?_
      obtain ⟨yn, hyn⟩ : ∃ z, y.alloc (.cells #[] 3) = z := ⟨_, rfl⟩
      obtain ⟨gA, hgn⟩ : ∃ g, y.heap.size = g := ⟨_, rfl⟩
      have hbn : Below w8.heap.size w8 yn := by rw [← hyn]; exact below_then hb (below_new _ _)
      have hAn : yn.ownsRow w8.heap.size 3 1 (.slice (some ⟨gA, 0, none⟩) 0 0) 0 [] := by rw [← hyn]; exact made_ati y gA w8.heap.size hgn (by rw [← hgn]; exact hb.size) _
      rw [if_pos (by kernel_rfl)]
      go_simp
      (try rw [hyn])
      (try rw [hgn])
      refine hK.out _ _ ((hbn.cell (p := ⟨w1.heap.size, 0, none⟩) hpl).trans (H8.out.2.2.1.cell 0)) (fun hHeldn => ?_)
      try simp only [Act.put, List.getElem_toArray, List.getElem_cons_zero, List.getElem_cons_succ, List.setIfInBounds_toArray, List.set_cons_zero, List.set_cons_succ]
      clear hK K hyn hgn hHeld hb y
      revert hAn
      revert hbn
      revert hHeldn
      revert gA
      revert yn
      refine ?snil100
      rotate_left
      refine AllReadyH.cons rfl (fun K hK => ?_) ?_
      obtain ⟨yn, hyn⟩ : ∃ z, y.alloc (.cells #[.int .i64 5, .int .i64 7] 3) = z := ⟨_, rfl⟩
      obtain ⟨gB, hgn⟩ : ∃ g, y.heap.size = g := ⟨_, rfl⟩
      have hbn : Below w8.heap.size w8 yn := by rw [← hyn]; exact below_then hb (below_new _ _)
      have hBn : Box gB #[.int .i64 5, .int .i64 7] 3 yn := by rw [← hyn, ← hgn]; exact Box.new _ _ _
      rw [if_pos (by kernel_rfl)]
      go_simp
      (try rw [hyn])
      (try rw [hgn])
      refine hK.out _ _ ((hbn.cell (p := ⟨w1.heap.size, 0, none⟩) hpl).trans (H8.out.2.2.1.cell 0)) (fun hHeldn => ?_)
      try simp only [Act.put, List.getElem_toArray, List.getElem_cons_zero, List.getElem_cons_succ, List.setIfInBounds_toArray, List.set_cons_zero, List.set_cons_succ]
      clear hK K hyn hgn hHeld hb y
      revert hBn
      revert hbn
      revert hHeldn
      revert gB
      revert yn
      refine ?snil010
      rotate_left
      refine AllReadyH.cons rfl (fun K hK => ?_) ?_
      obtain ⟨yn, hyn⟩ : ∃ z, y.alloc (.cells zero4E 37) = z := ⟨_, rfl⟩
      obtain ⟨gC, hgn⟩ : ∃ g, y.heap.size = g := ⟨_, rfl⟩
      have hbn : Below w8.heap.size w8 yn := by rw [← hyn]; exact below_then hb (below_new _ _)
      have hCn : Box gC zero4E 37 yn := by rw [← hyn, ← hgn]; exact Box.new _ _ _
      have hCln : w8.heap.size ≤ gC := by rw [← hgn]; exact hb.size
      rw [if_pos (by kernel_rfl)]
      go_simp
      (try rw [hyn])
      (try rw [hgn])
      refine hK.out _ _ ((hbn.cell (p := ⟨w1.heap.size, 0, none⟩) hpl).trans (H8.out.2.2.1.cell 0)) (fun hHeldn => ?_)
      try simp only [Act.put, List.getElem_toArray, List.getElem_cons_zero, List.getElem_cons_succ, List.setIfInBounds_toArray, List.set_cons_zero, List.set_cons_succ]
      clear hK K hyn hgn hHeld hb y
      revert hCln
      revert hCn
      revert hbn
      revert hHeldn
      revert gC
      revert yn
      refine ?snil001
      rotate_left
      exact AllReadyH.nil
      -- carried out: (1, 0, 0)
      intro y gA hHeld hb hA
      refine wpAnyH_ready (rs := [4, 5, 11]) (by kernel_rfl) (by simp) ?_
      refine AllReadyH.cons rfl (fun K hK => ?_) ?_
      rw [if_pos (by kernel_rfl)]
      go_simp
      refine hK.out _ _ ((hb.cell (p := ⟨w1.heap.size, 0, none⟩) hpl).trans (H8.out.2.2.1.cell 0)) (fun hHeldn => ?_)
      try simp only [Act.put, List.getElem_toArray, List.getElem_cons_zero, List.getElem_cons_succ, List.setIfInBounds_toArray, List.set_cons_zero, List.set_cons_succ]
      clear hK K hHeld
      revert hA
      revert hb
      revert hHeldn
      revert gA
      revert y
      refine ?snil200
      rotate_left
      refine AllReadyH.cons rfl (fun K hK => ?_) ?_
      obtain ⟨yn, hyn⟩ : ∃ z, y.alloc (.cells #[.int .i64 5, .int .i64 7] 3) = z := ⟨_, rfl⟩
      obtain ⟨gB, hgn⟩ : ∃ g, y.heap.size = g := ⟨_, rfl⟩
      have hbn : Below w8.heap.size w8 yn := by rw [← hyn]; exact below_then hb (below_new _ _)
      have hAn := hA.alloc (.cells #[.int .i64 5, .int .i64 7] 3)
      rw [hyn] at hAn
      have hBn : Box gB #[.int .i64 5, .int .i64 7] 3 yn := by rw [← hyn, ← hgn]; exact Box.new _ _ _
      have hBAn : gB ≠ gA := by have := (hA.lt gA rfl).2; omega
      rw [if_pos (by kernel_rfl)]
      go_simp
      (try rw [hyn])
      (try rw [hgn])
      refine hK.out _ _ ((hbn.cell (p := ⟨w1.heap.size, 0, none⟩) hpl).trans (H8.out.2.2.1.cell 0)) (fun hHeldn => ?_)
      try simp only [Act.put, List.getElem_toArray, List.getElem_cons_zero, List.getElem_cons_succ, List.setIfInBounds_toArray, List.set_cons_zero, List.set_cons_succ]
      clear hK K hyn hgn hHeld hb hA y
      revert hBAn
      revert hBn
      revert hAn
      revert hbn
      revert hHeldn
      revert gB
      revert gA
      revert yn
      refine ?snil110
      rotate_left
      refine AllReadyH.cons rfl (fun K hK => ?_) ?_
      obtain ⟨yn, hyn⟩ : ∃ z, y.alloc (.cells zero4E 37) = z := ⟨_, rfl⟩
      obtain ⟨gC, hgn⟩ : ∃ g, y.heap.size = g := ⟨_, rfl⟩
      have hbn : Below w8.heap.size w8 yn := by rw [← hyn]; exact below_then hb (below_new _ _)
      have hAn := hA.alloc (.cells zero4E 37)
      rw [hyn] at hAn
      have hCn : Box gC zero4E 37 yn := by rw [← hyn, ← hgn]; exact Box.new _ _ _
      have hCln : w8.heap.size ≤ gC := by rw [← hgn]; exact hb.size
      have hCAn : gC ≠ gA := by have := (hA.lt gA rfl).2; omega
      rw [if_pos (by kernel_rfl)]
      go_simp
      (try rw [hyn])
      (try rw [hgn])
      refine hK.out _ _ ((hbn.cell (p := ⟨w1.heap.size, 0, none⟩) hpl).trans (H8.out.2.2.1.cell 0)) (fun hHeldn => ?_)
      try simp only [Act.put, List.getElem_toArray, List.getElem_cons_zero, List.getElem_cons_succ, List.setIfInBounds_toArray, List.set_cons_zero, List.set_cons_succ]
      clear hK K hyn hgn hHeld hb hA y
      revert hCAn
      revert hCln
      revert hCn
      revert hAn
      revert hbn
      revert hHeldn
      revert gC
      revert gA
      revert yn
      refine ?snil101
      rotate_left
      exact AllReadyH.nil
      -- carried out: (0, 1, 0)
      intro y gB hHeld hb hB
      refine wpAnyH_ready (rs := [2, 11]) (by kernel_rfl) (by simp) ?_
      refine AllReadyH.cons rfl (fun K hK => ?_) ?_
      obtain ⟨yn, hyn⟩ : ∃ z, y.alloc (.cells #[] 3) = z := ⟨_, rfl⟩
      obtain ⟨gA, hgn⟩ : ∃ g, y.heap.size = g := ⟨_, rfl⟩
      have hbn : Below w8.heap.size w8 yn := by rw [← hyn]; exact below_then hb (below_new _ _)
      have hBn := hB.alloc (.cells #[] 3)
      rw [hyn] at hBn
      have hAn : yn.ownsRow w8.heap.size 3 1 (.slice (some ⟨gA, 0, none⟩) 0 0) 0 [] := by rw [← hyn]; exact made_ati y gA w8.heap.size hgn (by rw [← hgn]; exact hb.size) _
      have hBAn : gB ≠ gA := by have := hB.lt; omega
      rw [if_pos (by kernel_rfl)]
      go_simp
      (try rw [hyn])
      (try rw [hgn])
      refine hK.out _ _ ((hbn.cell (p := ⟨w1.heap.size, 0, none⟩) hpl).trans (H8.out.2.2.1.cell 0)) (fun hHeldn => ?_)
      try simp only [Act.put, List.getElem_toArray, List.getElem_cons_zero, List.getElem_cons_succ, List.setIfInBounds_toArray, List.set_cons_zero, List.set_cons_succ]
      clear hK K hyn hgn hHeld hb hB y
      revert hBAn
      revert hBn
      revert hAn
      revert hbn
      revert hHeldn
      revert gB
      revert gA
      revert yn
      refine ?snil110
      refine AllReadyH.cons rfl (fun K hK => ?_) ?_
      obtain ⟨yn, hyn⟩ : ∃ z, y.alloc (.cells zero4E 37) = z := ⟨_, rfl⟩
      obtain ⟨gC, hgn⟩ : ∃ g, y.heap.size = g := ⟨_, rfl⟩
      have hbn : Below w8.heap.size w8 yn := by rw [← hyn]; exact below_then hb (below_new _ _)
      have hBn := hB.alloc (.cells zero4E 37)
      rw [hyn] at hBn
      have hCn : Box gC zero4E 37 yn := by rw [← hyn, ← hgn]; exact Box.new _ _ _
      have hCln : w8.heap.size ≤ gC := by rw [← hgn]; exact hb.size
      rw [if_pos (by kernel_rfl)]
      go_simp
      (try rw [hyn])
      (try rw [hgn])
      refine hK.out _ _ ((hbn.cell (p := ⟨w1.heap.size, 0, none⟩) hpl).trans (H8.out.2.2.1.cell 0)) (fun hHeldn => ?_)
      try simp only [Act.put, List.getElem_toArray, List.getElem_cons_zero, List.getElem_cons_succ, List.setIfInBounds_toArray, List.set_cons_zero, List.set_cons_succ]
      clear hK K hyn hgn hHeld hb hB y
      revert hCln
      revert hCn
      revert hBn
      revert hbn
      revert hHeldn
      revert gC
      revert gB
      revert yn
      refine ?snil011
      rotate_left
      exact AllReadyH.nil
      -- carried out: (0, 0, 1)
      intro y gC hHeld hb hC hCl
      refine wpAnyH_ready (rs := [2, 5]) (by kernel_rfl) (by simp) ?_
      refine AllReadyH.cons rfl (fun K hK => ?_) ?_
      obtain ⟨yn, hyn⟩ : ∃ z, y.alloc (.cells #[] 3) = z := ⟨_, rfl⟩
      obtain ⟨gA, hgn⟩ : ∃ g, y.heap.size = g := ⟨_, rfl⟩
      have hbn : Below w8.heap.size w8 yn := by rw [← hyn]; exact below_then hb (below_new _ _)
      have hCn := hC.alloc (.cells #[] 3)
      rw [hyn] at hCn
      have hAn : yn.ownsRow w8.heap.size 3 1 (.slice (some ⟨gA, 0, none⟩) 0 0) 0 [] := by rw [← hyn]; exact made_ati y gA w8.heap.size hgn (by rw [← hgn]; exact hb.size) _
      have hCAn : gC ≠ gA := by have := hC.lt; omega
      rw [if_pos (by kernel_rfl)]
      go_simp
      (try rw [hyn])
      (try rw [hgn])
      refine hK.out _ _ ((hbn.cell (p := ⟨w1.heap.size, 0, none⟩) hpl).trans (H8.out.2.2.1.cell 0)) (fun hHeldn => ?_)
      try simp only [Act.put, List.getElem_toArray, List.getElem_cons_zero, List.getElem_cons_succ, List.setIfInBounds_toArray, List.set_cons_zero, List.set_cons_succ]
      clear hK K hyn hgn hHeld hb hC y
      revert hCAn
      revert hCl
      revert hCn
      revert hAn
      revert hbn
      revert hHeldn
      revert gC
      revert gA
      revert yn
      refine ?snil101
      refine AllReadyH.cons rfl (fun K hK => ?_) ?_
      obtain ⟨yn, hyn⟩ : ∃ z, y.alloc (.cells #[.int .i64 5, .int .i64 7] 3) = z := ⟨_, rfl⟩
      obtain ⟨gB, hgn⟩ : ∃ g, y.heap.size = g := ⟨_, rfl⟩
      have hbn : Below w8.heap.size w8 yn := by rw [← hyn]; exact below_then hb (below_new _ _)
      have hCn := hC.alloc (.cells #[.int .i64 5, .int .i64 7] 3)
      rw [hyn] at hCn
      have hBn : Box gB #[.int .i64 5, .int .i64 7] 3 yn := by rw [← hyn, ← hgn]; exact Box.new _ _ _
      rw [if_pos (by kernel_rfl)]
      go_simp
      (try rw [hyn])
      (try rw [hgn])
      refine hK.out _ _ ((hbn.cell (p := ⟨w1.heap.size, 0, none⟩) hpl).trans (H8.out.2.2.1.cell 0)) (fun hHeldn => ?_)
      try simp only [Act.put, List.getElem_toArray, List.getElem_cons_zero, List.getElem_cons_succ, List.setIfInBounds_toArray, List.set_cons_zero, List.set_cons_succ]
      clear hK K hyn hgn hHeld hb hC y
      revert hCl
      revert hCn
      revert hBn
      revert hbn
      revert hHeldn
      revert gC
      revert gB
      revert yn
      refine ?snil011
      exact AllReadyH.nil
      -- carried out: (2, 0, 0)
      intro y gA hHeld hb hA
      refine wpAnyH_ready (rs := [5, 11]) (by kernel_rfl) (by simp) ?_
      refine AllReadyH.cons rfl (fun K hK => ?_) ?_
      obtain ⟨yn, hyn⟩ : ∃ z, y.alloc (.cells #[.int .i64 5, .int .i64 7] 3) = z := ⟨_, rfl⟩
      obtain ⟨gB, hgn⟩ : ∃ g, y.heap.size = g := ⟨_, rfl⟩
      have hbn : Below w8.heap.size w8 yn := by rw [← hyn]; exact below_then hb (below_new _ _)
      have hAn := hA.alloc (.cells #[.int .i64 5, .int .i64 7] 3)
      rw [hyn] at hAn
      have hBn : Box gB #[.int .i64 5, .int .i64 7] 3 yn := by rw [← hyn, ← hgn]; exact Box.new _ _ _
      have hBAn : gB ≠ gA := by have := (hA.lt gA rfl).2; omega
      rw [if_pos (by kernel_rfl)]
      go_simp
      (try rw [hyn])
      (try rw [hgn])
      refine hK.out _ _ ((hbn.cell (p := ⟨w1.heap.size, 0, none⟩) hpl).trans (H8.out.2.2.1.cell 0)) (fun hHeldn => ?_)
      try simp only [Act.put, List.getElem_toArray, List.getElem_cons_zero, List.getElem_cons_succ, List.setIfInBounds_toArray, List.set_cons_zero, List.set_cons_succ]
      clear hK K hyn hgn hHeld hb hA y
      revert hBAn
      revert hBn
      revert hAn
      revert hbn
      revert hHeldn
      revert gB
      revert gA
      revert yn
      refine ?snil210
      rotate_left
      refine AllReadyH.cons rfl (fun K hK => ?_) ?_
      obtain ⟨yn, hyn⟩ : ∃ z, y.alloc (.cells zero4E 37) = z := ⟨_, rfl⟩
      obtain ⟨gC, hgn⟩ : ∃ g, y.heap.size = g := ⟨_, rfl⟩
      have hbn : Below w8.heap.size w8 yn := by rw [← hyn]; exact below_then hb (below_new _ _)
      have hAn := hA.alloc (.cells zero4E 37)
      rw [hyn] at hAn
      have hCn : Box gC zero4E 37 yn := by rw [← hyn, ← hgn]; exact Box.new _ _ _
      have hCln : w8.heap.size ≤ gC := by rw [← hgn]; exact hb.size
      have hCAn : gC ≠ gA := by have := (hA.lt gA rfl).2; omega
      rw [if_pos (by kernel_rfl)]
      go_simp
      (try rw [hyn])
      (try rw [hgn])
      refine hK.out _ _ ((hbn.cell (p := ⟨w1.heap.size, 0, none⟩) hpl).trans (H8.out.2.2.1.cell 0)) (fun hHeldn => ?_)
      try simp only [Act.put, List.getElem_toArray, List.getElem_cons_zero, List.getElem_cons_succ, List.setIfInBounds_toArray, List.set_cons_zero, List.set_cons_succ]
      clear hK K hyn hgn hHeld hb hA y
      revert hCAn
      revert hCln
      revert hCn
      revert hAn
      revert hbn
      revert hHeldn
      revert gC
      revert gA
      revert yn
      refine ?snil201
      rotate_left
      exact AllReadyH.nil
      -- carried out: (1, 1, 0)
      intro y gA gB hHeld hb hA hB hBA
      refine wpAnyH_ready (rs := [4, 11]) (by kernel_rfl) (by simp) ?_
      refine AllReadyH.cons rfl (fun K hK => ?_) ?_
      rw [if_pos (by kernel_rfl)]
      go_simp
      refine hK.out _ _ ((hb.cell (p := ⟨w1.heap.size, 0, none⟩) hpl).trans (H8.out.2.2.1.cell 0)) (fun hHeldn => ?_)
      try simp only [Act.put, List.getElem_toArray, List.getElem_cons_zero, List.getElem_cons_succ, List.setIfInBounds_toArray, List.set_cons_zero, List.set_cons_succ]
      clear hK K hHeld
      revert hBA
      revert hB
      revert hA
      revert hb
      revert hHeldn
      revert gB
      revert gA
      revert y
      refine ?snil210
      refine AllReadyH.cons rfl (fun K hK => ?_) ?_
      obtain ⟨yn, hyn⟩ : ∃ z, y.alloc (.cells zero4E 37) = z := ⟨_, rfl⟩
      obtain ⟨gC, hgn⟩ : ∃ g, y.heap.size = g := ⟨_, rfl⟩
      have hbn : Below w8.heap.size w8 yn := by rw [← hyn]; exact below_then hb (below_new _ _)
      have hBn := hB.alloc (.cells zero4E 37)
      rw [hyn] at hBn
      have hAn := hA.alloc (.cells zero4E 37)
      rw [hyn] at hAn
      have hCn : Box gC zero4E 37 yn := by rw [← hyn, ← hgn]; exact Box.new _ _ _
      have hCln : w8.heap.size ≤ gC := by rw [← hgn]; exact hb.size
      have hCAn : gC ≠ gA := by have := (hA.lt gA rfl).2; omega
      rw [if_pos (by kernel_rfl)]
      go_simp
      (try rw [hyn])
      (try rw [hgn])
      refine hK.out _ _ ((hbn.cell (p := ⟨w1.heap.size, 0, none⟩) hpl).trans (H8.out.2.2.1.cell 0)) (fun hHeldn => ?_)
      try simp only [Act.put, List.getElem_toArray, List.getElem_cons_zero, List.getElem_cons_succ, List.setIfInBounds_toArray, List.set_cons_zero, List.set_cons_succ]
      clear hK K hyn hgn hHeld hb hA hB y
      revert hCAn
      revert hBA
      revert hCln
      revert hCn
      revert hBn
      revert hAn
      revert hbn
      revert hHeldn
      revert gC
      revert gB
      revert gA
      revert yn
      refine ?snil111
      rotate_left
      exact AllReadyH.nil
      -- carried out: (1, 0, 1)
      intro y gA gC hHeld hb hA hC hCl hCA
      refine wpAnyH_ready (rs := [4, 5]) (by kernel_rfl) (by simp) ?_
      refine AllReadyH.cons rfl (fun K hK => ?_) ?_
      rw [if_pos (by kernel_rfl)]
      go_simp
      refine hK.out _ _ ((hb.cell (p := ⟨w1.heap.size, 0, none⟩) hpl).trans (H8.out.2.2.1.cell 0)) (fun hHeldn => ?_)
      try simp only [Act.put, List.getElem_toArray, List.getElem_cons_zero, List.getElem_cons_succ, List.setIfInBounds_toArray, List.set_cons_zero, List.set_cons_succ]
      clear hK K hHeld
      revert hCA
      revert hCl
      revert hC
      revert hA
      revert hb
      revert hHeldn
      revert gC
      revert gA
      revert y
      refine ?snil201
      refine AllReadyH.cons rfl (fun K hK => ?_) ?_
      obtain ⟨yn, hyn⟩ : ∃ z, y.alloc (.cells #[.int .i64 5, .int .i64 7] 3) = z := ⟨_, rfl⟩
      obtain ⟨gB, hgn⟩ : ∃ g, y.heap.size = g := ⟨_, rfl⟩
      have hbn : Below w8.heap.size w8 yn := by rw [← hyn]; exact below_then hb (below_new _ _)
      have hCn := hC.alloc (.cells #[.int .i64 5, .int .i64 7] 3)
      rw [hyn] at hCn
      have hAn := hA.alloc (.cells #[.int .i64 5, .int .i64 7] 3)
      rw [hyn] at hAn
      have hBn : Box gB #[.int .i64 5, .int .i64 7] 3 yn := by rw [← hyn, ← hgn]; exact Box.new _ _ _
      have hBAn : gB ≠ gA := by have := (hA.lt gA rfl).2; omega
      rw [if_pos (by kernel_rfl)]
      go_simp
      (try rw [hyn])
      (try rw [hgn])
      refine hK.out _ _ ((hbn.cell (p := ⟨w1.heap.size, 0, none⟩) hpl).trans (H8.out.2.2.1.cell 0)) (fun hHeldn => ?_)
      try simp only [Act.put, List.getElem_toArray, List.getElem_cons_zero, List.getElem_cons_succ, List.setIfInBounds_toArray, List.set_cons_zero, List.set_cons_succ]
      clear hK K hyn hgn hHeld hb hA hC y
      revert hCA
      revert hBAn
      revert hCl
      revert hCn
      revert hBn
      revert hAn
      revert hbn
      revert hHeldn
      revert gC
      revert gB
      revert gA
      revert yn
      refine ?snil111
      exact AllReadyH.nil
      -- carried out: (0, 1, 1)
      intro y gB gC hHeld hb hB hC hCl
      refine wpAnyH_ready (rs := [2]) (by kernel_rfl) (by simp) ?_
      refine AllReadyH.cons rfl (fun K hK => ?_) ?_
      obtain ⟨yn, hyn⟩ : ∃ z, y.alloc (.cells #[] 3) = z := ⟨_, rfl⟩
      obtain ⟨gA, hgn⟩ : ∃ g, y.heap.size = g := ⟨_, rfl⟩
      have hbn : Below w8.heap.size w8 yn := by rw [← hyn]; exact below_then hb (below_new _ _)
      have hBn := hB.alloc (.cells #[] 3)
      rw [hyn] at hBn
      have hCn := hC.alloc (.cells #[] 3)
      rw [hyn] at hCn
      have hAn : yn.ownsRow w8.heap.size 3 1 (.slice (some ⟨gA, 0, none⟩) 0 0) 0 [] := by rw [← hyn]; exact made_ati y gA w8.heap.size hgn (by rw [← hgn]; exact hb.size) _
      have hBAn : gB ≠ gA := by have := hB.lt; omega
      have hCAn : gC ≠ gA := by have := hC.lt; omega
      rw [if_pos (by kernel_rfl)]
      go_simp
      (try rw [hyn])
      (try rw [hgn])
      refine hK.out _ _ ((hbn.cell (p := ⟨w1.heap.size, 0, none⟩) hpl).trans (H8.out.2.2.1.cell 0)) (fun hHeldn => ?_)
      try simp only [Act.put, List.getElem_toArray, List.getElem_cons_zero, List.getElem_cons_succ, List.setIfInBounds_toArray, List.set_cons_zero, List.set_cons_succ]
      clear hK K hyn hgn hHeld hb hB hC y
      revert hCAn
      revert hBAn
      revert hCl
      revert hCn
      revert hBn
      revert hAn
      revert hbn
      revert hHeldn
      revert gC
      revert gB
      revert gA
      revert yn
      refine ?snil111
      exact AllReadyH.nil
      -- carried out: (2, 1, 0)
      intro y gA gB hHeld hb hA hB hBA
      refine wpAnyH_ready (rs := [6, 11]) (by kernel_rfl) (by simp) ?_
      refine AllReadyH.cons rfl (fun K hK => ?_) ?_
      refine step_append_lies _ (by rfl) _ _ _ (by rfl) w8.heap.size 3 i0 (.int .i64 0) 1 8 Try.underlying28 hi hz0 hz1 hz2 rfl (by decide) _ 0 _ (by rfl) hA ⟨gB, 0, none⟩ 2 2 [.int .i64 5, .int .i64 7] (by rfl) (by rfl) (World.news_of_block (cs := #[.int .i64 5, .int .i64 7]) (t := 3) (fr := (0, 0)) hB) (by simp [Value.oneCell']) (by omega) (by unfold maxLen; omega) (by omega) hb.size y.heap.size rfl ?_
      intro gN cN yn hAn hgn hatn hltn
      (try simp only [Nat.zero_add, List.nil_append] at hAn ⊢)
      have hbn : Below w8.heap.size w8 yn := hb.grown hgn hb.size (fun q hq => (hA.lt q hq).1)
      have hxn : gN = gA ∨ gN = y.heap.size := by
        rcases hatn with h | h
        · exact .inl (Option.some.inj h).symm
        · exact .inr h
      refine hK.out _ _ ((hbn.cell (p := ⟨w1.heap.size, 0, none⟩) hpl).trans (H8.out.2.2.1.cell 0)) (fun hHeldn => ?_)
      try simp only [Act.put, List.getElem_toArray, List.getElem_cons_zero, List.getElem_cons_succ, List.setIfInBounds_toArray, List.set_cons_zero, List.set_cons_succ]
      clear hK K hgn hatn hltn hxn hHeld hb hA hB hBA y
      revert hAn
      revert hbn
      revert hHeldn
      revert gB
      revert cN
      revert gN
      revert gA
      revert yn
      refine ?snil310
      rotate_left
      refine AllReadyH.cons rfl (fun K hK => ?_) ?_
      obtain ⟨yn, hyn⟩ : ∃ z, y.alloc (.cells zero4E 37) = z := ⟨_, rfl⟩
      obtain ⟨gC, hgn⟩ : ∃ g, y.heap.size = g := ⟨_, rfl⟩
      have hbn : Below w8.heap.size w8 yn := by rw [← hyn]; exact below_then hb (below_new _ _)
      have hBn := hB.alloc (.cells zero4E 37)
      rw [hyn] at hBn
      have hAn := hA.alloc (.cells zero4E 37)
      rw [hyn] at hAn
      have hCn : Box gC zero4E 37 yn := by rw [← hyn, ← hgn]; exact Box.new _ _ _
      have hCln : w8.heap.size ≤ gC := by rw [← hgn]; exact hb.size
      have hCAn : gC ≠ gA := by have := (hA.lt gA rfl).2; omega
      rw [if_pos (by kernel_rfl)]
      go_simp
      (try rw [hyn])
      (try rw [hgn])
      refine hK.out _ _ ((hbn.cell (p := ⟨w1.heap.size, 0, none⟩) hpl).trans (H8.out.2.2.1.cell 0)) (fun hHeldn => ?_)
      try simp only [Act.put, List.getElem_toArray, List.getElem_cons_zero, List.getElem_cons_succ, List.setIfInBounds_toArray, List.set_cons_zero, List.set_cons_succ]
      clear hK K hyn hgn hHeld hb hA hB y
      revert hCAn
      revert hBA
      revert hCln
      revert hCn
      revert hBn
      revert hAn
      revert hbn
      revert hHeldn
      revert gC
      revert gB
      revert gA
      revert yn
      refine ?snil211
      rotate_left
      exact AllReadyH.nil
      -- carried out: (2, 0, 1)
      intro y gA gC hHeld hb hA hC hCl hCA
      refine wpAnyH_ready (rs := [5]) (by kernel_rfl) (by simp) ?_
      refine AllReadyH.cons rfl (fun K hK => ?_) ?_
      obtain ⟨yn, hyn⟩ : ∃ z, y.alloc (.cells #[.int .i64 5, .int .i64 7] 3) = z := ⟨_, rfl⟩
      obtain ⟨gB, hgn⟩ : ∃ g, y.heap.size = g := ⟨_, rfl⟩
      have hbn : Below w8.heap.size w8 yn := by rw [← hyn]; exact below_then hb (below_new _ _)
      have hCn := hC.alloc (.cells #[.int .i64 5, .int .i64 7] 3)
      rw [hyn] at hCn
      have hAn := hA.alloc (.cells #[.int .i64 5, .int .i64 7] 3)
      rw [hyn] at hAn
      have hBn : Box gB #[.int .i64 5, .int .i64 7] 3 yn := by rw [← hyn, ← hgn]; exact Box.new _ _ _
      have hBAn : gB ≠ gA := by have := (hA.lt gA rfl).2; omega
      rw [if_pos (by kernel_rfl)]
      go_simp
      (try rw [hyn])
      (try rw [hgn])
      refine hK.out _ _ ((hbn.cell (p := ⟨w1.heap.size, 0, none⟩) hpl).trans (H8.out.2.2.1.cell 0)) (fun hHeldn => ?_)
      try simp only [Act.put, List.getElem_toArray, List.getElem_cons_zero, List.getElem_cons_succ, List.setIfInBounds_toArray, List.set_cons_zero, List.set_cons_succ]
      clear hK K hyn hgn hHeld hb hA hC y
      revert hCA
      revert hBAn
      revert hCl
      revert hCn
      revert hBn
      revert hAn
      revert hbn
      revert hHeldn
      revert gC
      revert gB
      revert gA
      revert yn
      refine ?snil211
      exact AllReadyH.nil
      -- carried out: (1, 1, 1)
      intro y gA gB gC hHeld hb hA hB hC hCl hBA hCA
      refine wpAnyH_ready (rs := [4]) (by kernel_rfl) (by simp) ?_
      refine AllReadyH.cons rfl (fun K hK => ?_) ?_
      rw [if_pos (by kernel_rfl)]
      go_simp
      refine hK.out _ _ ((hb.cell (p := ⟨w1.heap.size, 0, none⟩) hpl).trans (H8.out.2.2.1.cell 0)) (fun hHeldn => ?_)
      try simp only [Act.put, List.getElem_toArray, List.getElem_cons_zero, List.getElem_cons_succ, List.setIfInBounds_toArray, List.set_cons_zero, List.set_cons_succ]
      clear hK K hHeld
      revert hCA
      revert hBA
      revert hCl
      revert hC
      revert hB
      revert hA
      revert hb
      revert hHeldn
      revert gC
      revert gB
      revert gA
      revert y
      refine ?snil211
      exact AllReadyH.nil
      -- carried out: (3, 1, 0)
      intro y g0 gA cA gB hHeld hb hA
      refine wpAnyH_ready (rs := [7, 11]) (by kernel_rfl) (by simp) ?_
      refine AllReadyH.cons rfl (fun K hK => ?_) ?_
      rw [if_pos (by kernel_rfl)]
      go_simp
      go_at_call 12
      refine (impl_taskeffect (some ⟨gp, 0, none⟩) n c P HSZ.out hnc _ (H8.out.2.2.2.1.below hb) av 8 cv V (by decide) hcv (Row.of_own (H8.out.2.1.kept (grown_below hb none) (by cases av <;> simp [Value.ownBlock]))) (some ⟨gA, 0, none⟩) _ cA [5, 7] (by omega) (own_le hA) (Row.of_own (L := [5, 7]) (by simpa [ivs] using hA)) 0 true E2 HEY.out).mono ?_
      rintro e yn ⟨b1, o1, d1, b2, o2, d2, rfl, hmn, hbc⟩
      have hbn : Below w8.heap.size w8 yn := below_then hb hbc
      have ho1n : E2.V.length = o1 := own_len hmn.1
      have ho2n : E2.S.length = o2 := own_len hmn.2.1
      have hR1n := hmn.1.mono hb.size
      have hR2n := hmn.2.1.mono hb.size
      refine hK.out _ _ ((hbn.cell (p := ⟨w1.heap.size, 0, none⟩) hpl).trans (H8.out.2.2.1.cell 0)) (fun hHeldn => ?_)
      try simp only [Act.put, List.getElem_toArray, List.getElem_cons_zero, List.getElem_cons_succ, List.setIfInBounds_toArray, List.set_cons_zero, List.set_cons_succ]
      refine wpAnyH_take (i := 8) (v := .tuple #[effV b1 o1 d1 b2 o2 d2 E2, .bool true]) rfl (by kernel_rfl) (by kernel_rfl) (by kernel_rfl) (fun _ _ _ h => h) (Or.inl ⟨by rfl, (by intro w' hSw; (try dsimp only at hSw); go_simp)⟩) (by assumption) ?_
      try simp only [Act.put, List.getElem_toArray, List.getElem_cons_zero, List.getElem_cons_succ, List.setIfInBounds_toArray, List.set_cons_zero, List.set_cons_succ]
      refine wpAnyH_take (i := 9) (v := effV b1 o1 d1 b2 o2 d2 E2) rfl (by kernel_rfl) (by kernel_rfl) (by kernel_rfl) (fun _ _ _ h => h) (Or.inl ⟨by rfl, (by intro w' hSw; (try dsimp only at hSw); go_simp)⟩) (by assumption) ?_
      try simp only [Act.put, List.getElem_toArray, List.getElem_cons_zero, List.getElem_cons_succ, List.setIfInBounds_toArray, List.set_cons_zero, List.set_cons_succ]
      refine wpAnyH_take (i := 10) (v := .bool true) rfl (by kernel_rfl) (by kernel_rfl) (by kernel_rfl) (fun _ _ _ h => h) (Or.inl ⟨by rfl, (by intro w' hSw; (try dsimp only at hSw); go_simp)⟩) (by assumption) ?_
      try simp only [Act.put, List.getElem_toArray, List.getElem_cons_zero, List.getElem_cons_succ, List.setIfInBounds_toArray, List.set_cons_zero, List.set_cons_succ]
      clear hK K hmn hbc hHeld hb hA y
      revert hR2n
      revert hR1n
      revert ho2n
      revert ho1n
      revert hbn
      revert hHeldn
      revert d2
      revert o2
      revert b2
      revert d1
      revert o1
      revert b1
      revert gB
      revert cA
      revert gA
      revert g0
      revert yn
      refine ?snil410
      rotate_left
      refine AllReadyH.cons rfl (fun K hK => ?_) ?_
      obtain ⟨yn, hyn⟩ : ∃ z, y.alloc (.cells zero4E 37) = z := ⟨_, rfl⟩
      obtain ⟨gC, hgn⟩ : ∃ g, y.heap.size = g := ⟨_, rfl⟩
      have hbn : Below w8.heap.size w8 yn := by rw [← hyn]; exact below_then hb (below_new _ _)
      have hAn := hA.alloc (.cells zero4E 37)
      rw [hyn] at hAn
      have hCn : Box gC zero4E 37 yn := by rw [← hyn, ← hgn]; exact Box.new _ _ _
      have hCln : w8.heap.size ≤ gC := by rw [← hgn]; exact hb.size
      rw [if_pos (by kernel_rfl)]
      go_simp
      (try rw [hyn])
      (try rw [hgn])
      refine hK.out _ _ ((hbn.cell (p := ⟨w1.heap.size, 0, none⟩) hpl).trans (H8.out.2.2.1.cell 0)) (fun hHeldn => ?_)
      try simp only [Act.put, List.getElem_toArray, List.getElem_cons_zero, List.getElem_cons_succ, List.setIfInBounds_toArray, List.set_cons_zero, List.set_cons_succ]
      clear hK K hyn hgn hHeld hb hA y
      revert hCln
      revert hCn
      revert hAn
      revert hbn
      revert hHeldn
      revert gC
      revert gB
      revert cA
      revert gA
      revert g0
      revert yn
      refine ?snil311
      rotate_left
      exact AllReadyH.nil
      -- carried out: (2, 1, 1)
      intro y gA gB gC hHeld hb hA hB hC hCl hBA hCA
      refine wpAnyH_ready (rs := [6]) (by kernel_rfl) (by simp) ?_
      refine AllReadyH.cons rfl (fun K hK => ?_) ?_
      refine step_append_lies _ (by rfl) _ _ _ (by rfl) w8.heap.size 3 i0 (.int .i64 0) 1 8 Try.underlying28 hi hz0 hz1 hz2 rfl (by decide) _ 0 _ (by rfl) hA ⟨gB, 0, none⟩ 2 2 [.int .i64 5, .int .i64 7] (by rfl) (by rfl) (World.news_of_block (cs := #[.int .i64 5, .int .i64 7]) (t := 3) (fr := (0, 0)) hB) (by simp [Value.oneCell']) (by omega) (by unfold maxLen; omega) (by omega) hb.size y.heap.size rfl ?_
      intro gN cN yn hAn hgn hatn hltn
      (try simp only [Nat.zero_add, List.nil_append] at hAn ⊢)
      have hbn : Below w8.heap.size w8 yn := hb.grown hgn hb.size (fun q hq => (hA.lt q hq).1)
      have hxn : gN = gA ∨ gN = y.heap.size := by
        rcases hatn with h | h
        · exact .inl (Option.some.inj h).symm
        · exact .inr h
      have hCn := hC.grown hgn (fun e => by have h9 : gC = gA := Option.some.inj e; omega)
      refine hK.out _ _ ((hbn.cell (p := ⟨w1.heap.size, 0, none⟩) hpl).trans (H8.out.2.2.1.cell 0)) (fun hHeldn => ?_)
      try simp only [Act.put, List.getElem_toArray, List.getElem_cons_zero, List.getElem_cons_succ, List.setIfInBounds_toArray, List.set_cons_zero, List.set_cons_succ]
      clear hK K hgn hatn hltn hxn hHeld hb hA hB hC hBA hCA y
      revert hCl
      revert hCn
      revert hAn
      revert hbn
      revert hHeldn
      revert gC
      revert gB
      revert cN
      revert gN
      revert gA
      revert yn
      refine ?snil311
      exact AllReadyH.nil
      -- carried out: (4, 1, 0)
      intro y g0 gA cA gB b1 o1 d1 b2 o2 d2 hHeld hb ho1 ho2 hR1 hR2
      refine wpAnyH_ready (rs := [11]) (by kernel_rfl) (by simp) ?_
      refine AllReadyH.cons rfl (fun K hK => ?_) ?_
      obtain ⟨yn, hyn⟩ : ∃ z, y.alloc (.cells zero4E 37) = z := ⟨_, rfl⟩
      obtain ⟨gC, hgn⟩ : ∃ g, y.heap.size = g := ⟨_, rfl⟩
      have hbn : Below w8.heap.size w8 yn := by rw [← hyn]; exact below_then hb (below_new _ _)
      have hR1n := hR1.alloc (.cells zero4E 37)
      rw [hyn] at hR1n
      have hR2n := hR2.alloc (.cells zero4E 37)
      rw [hyn] at hR2n
      have hCn : Box gC zero4E 37 yn := by rw [← hyn, ← hgn]; exact Box.new _ _ _
      have hCln : w8.heap.size ≤ gC := by rw [← hgn]; exact hb.size
      have hR1Cn := ne_own hR1.lt (.inr (show y.heap.size ≤ gC by omega))
      have hR2Cn := ne_own hR2.lt (.inr (show y.heap.size ≤ gC by omega))
      rw [if_pos (by kernel_rfl)]
      go_simp
      (try rw [hyn])
      (try rw [hgn])
      refine hK.out _ _ ((hbn.cell (p := ⟨w1.heap.size, 0, none⟩) hpl).trans (H8.out.2.2.1.cell 0)) (fun hHeldn => ?_)
      try simp only [Act.put, List.getElem_toArray, List.getElem_cons_zero, List.getElem_cons_succ, List.setIfInBounds_toArray, List.set_cons_zero, List.set_cons_succ]
      clear hK K hyn hgn hHeld hb hR1 hR2 y
      revert hR2Cn
      revert hR1Cn
      revert hR2n
      revert hR1n
      revert ho2
      revert ho1
      revert hCln
      revert hCn
      revert hbn
      revert hHeldn
      revert d2
      revert o2
      revert b2
      revert d1
      revert o1
      revert b1
      revert gC
      revert gB
      revert cA
      revert gA
      revert g0
      revert yn
      refine ?snil411
      rotate_left
      exact AllReadyH.nil
      -- carried out: (3, 1, 1)
      intro y g0 gA cA gB gC hHeld hb hA hC hCl
      refine wpAnyH_ready (rs := [7]) (by kernel_rfl) (by simp) ?_
      refine AllReadyH.cons rfl (fun K hK => ?_) ?_
      rw [if_pos (by kernel_rfl)]
      go_simp
      go_at_call 12
      refine (impl_taskeffect (some ⟨gp, 0, none⟩) n c P HSZ.out hnc _ (H8.out.2.2.2.1.below hb) av 8 cv V (by decide) hcv (Row.of_own (H8.out.2.1.kept (grown_below hb none) (by cases av <;> simp [Value.ownBlock]))) (some ⟨gA, 0, none⟩) _ cA [5, 7] (by omega) (own_le hA) (Row.of_own (L := [5, 7]) (by simpa [ivs] using hA)) 0 true E2 HEY.out).mono ?_
      rintro e yn ⟨b1, o1, d1, b2, o2, d2, rfl, hmn, hbc⟩
      have hbn : Below w8.heap.size w8 yn := below_then hb hbc
      have ho1n : E2.V.length = o1 := own_len hmn.1
      have ho2n : E2.S.length = o2 := own_len hmn.2.1
      have hR1n := hmn.1.mono hb.size
      have hR2n := hmn.2.1.mono hb.size
      have hCn := hC.below hbc
      have hR1Cn := ne_own hmn.1.lt (.inl hC.lt)
      have hR2Cn := ne_own hmn.2.1.lt (.inl hC.lt)
      refine hK.out _ _ ((hbn.cell (p := ⟨w1.heap.size, 0, none⟩) hpl).trans (H8.out.2.2.1.cell 0)) (fun hHeldn => ?_)
      try simp only [Act.put, List.getElem_toArray, List.getElem_cons_zero, List.getElem_cons_succ, List.setIfInBounds_toArray, List.set_cons_zero, List.set_cons_succ]
      refine wpAnyH_take (i := 8) (v := .tuple #[effV b1 o1 d1 b2 o2 d2 E2, .bool true]) rfl (by kernel_rfl) (by kernel_rfl) (by kernel_rfl) (fun _ _ _ h => h) (Or.inl ⟨by rfl, (by intro w' hSw; (try dsimp only at hSw); go_simp)⟩) (by assumption) ?_
      try simp only [Act.put, List.getElem_toArray, List.getElem_cons_zero, List.getElem_cons_succ, List.setIfInBounds_toArray, List.set_cons_zero, List.set_cons_succ]
      refine wpAnyH_take (i := 9) (v := effV b1 o1 d1 b2 o2 d2 E2) rfl (by kernel_rfl) (by kernel_rfl) (by kernel_rfl) (fun _ _ _ h => h) (Or.inl ⟨by rfl, (by intro w' hSw; (try dsimp only at hSw); go_simp)⟩) (by assumption) ?_
      try simp only [Act.put, List.getElem_toArray, List.getElem_cons_zero, List.getElem_cons_succ, List.setIfInBounds_toArray, List.set_cons_zero, List.set_cons_succ]
      refine wpAnyH_take (i := 10) (v := .bool true) rfl (by kernel_rfl) (by kernel_rfl) (by kernel_rfl) (fun _ _ _ h => h) (Or.inl ⟨by rfl, (by intro w' hSw; (try dsimp only at hSw); go_simp)⟩) (by assumption) ?_
      try simp only [Act.put, List.getElem_toArray, List.getElem_cons_zero, List.getElem_cons_succ, List.setIfInBounds_toArray, List.set_cons_zero, List.set_cons_succ]
      clear hK K hmn hbc hHeld hb hA hC y
      revert hR2Cn
      revert hR1Cn
      revert hR2n
      revert hR1n
      revert ho2n
      revert ho1n
      revert hCl
      revert hCn
      revert hbn
      revert hHeldn
      revert d2
      revert o2
      revert b2
      revert d1
      revert o1
      revert b1
      revert gC
      revert gB
      revert cA
      revert gA
      revert g0
      revert yn
      refine ?snil411
      exact AllReadyH.nil
      -- carried out: (4, 1, 1)
      intro y g0 gA cA gB gC b1 o1 d1 b2 o2 d2 hHeld hb hC hCl ho1 ho2 hR1 hR2 hR1C hR2C
      refine wpAnyH_ready (rs := [12]) (by kernel_rfl) (by simp) ?_
      refine AllReadyH.cons rfl (fun K hK => ?_) AllReadyH.nil
      have z0 : y.cell? ⟨gC, 0, none⟩ = some (.slice none 0 0) := hC.cell 0
      have f0 : y.frozen? ⟨gC, 0, none⟩ = false := hC.frozen 0
      have z1 : y.cell? ⟨gC, 1, none⟩ = some (.slice none 0 0) := hC.cell 1
      have f1 : y.frozen? ⟨gC, 1, none⟩ = false := hC.frozen 1
      have z2 : y.cell? ⟨gC, 2, none⟩ = some (.int .i64 0) := hC.cell 2
      have f2 : y.frozen? ⟨gC, 2, none⟩ = false := hC.frozen 2
      have z3 : y.cell? ⟨gC, 3, none⟩ = some (.int .i64 0) := hC.cell 3
      have f3 : y.frozen? ⟨gC, 3, none⟩ = false := hC.frozen 3
      have hgs : y.grownBy ((((y.setCell ⟨gC, 0, none⟩ (.slice b1 o1 d1)).setCell ⟨gC, 1, none⟩ (.slice b2 o2 d2)).setCell ⟨gC, 2, none⟩ (.int .i64 E2.N)).setCell ⟨gC, 3, none⟩ (.int .i64 E2.U)) (some gC) := grown_trans (grown_trans (grown_trans (grown_setCell _ _ _ _) (grown_setCell _ _ _ _)) (grown_setCell _ _ _ _)) (grown_setCell _ _ _ _)
      have hcx : Box gC #[.slice b1 o1 d1, .slice b2 o2 d2, .int .i64 E2.N, .int .i64 E2.U] 37 ((((y.setCell ⟨gC, 0, none⟩ (.slice b1 o1 d1)).setCell ⟨gC, 1, none⟩ (.slice b2 o2 d2)).setCell ⟨gC, 2, none⟩ (.int .i64 E2.N)).setCell ⟨gC, 3, none⟩ (.int .i64 E2.U)) := (((hC.set 0 _).set 1 _).set 2 _).set 3 _
      obtain ⟨yn, hyn⟩ : ∃ z, (((y.setCell ⟨gC, 0, none⟩ (.slice b1 o1 d1)).setCell ⟨gC, 1, none⟩ (.slice b2 o2 d2)).setCell ⟨gC, 2, none⟩ (.int .i64 E2.N)).setCell ⟨gC, 3, none⟩ (.int .i64 E2.U) = z := ⟨_, rfl⟩
      rw [hyn] at hgs hcx
      have hbn : Below w8.heap.size w8 yn := hb.grown hgs hb.size (fun q hq => by cases hq; exact hCl)
      rw [if_pos (by kernel_rfl)]
      go_simp
      (try rw [hyn])
      refine hK.out _ _ ((hbn.cell (p := ⟨w1.heap.size, 0, none⟩) hpl).trans (H8.out.2.2.1.cell 0)) (fun hHeldn => ?_)
      clear hK K hyn z0 z1 z2 z3 f0 f1 f2 f3
      try simp only [Act.put, List.getElem_toArray, List.getElem_cons_zero, List.getElem_cons_succ, List.setIfInBounds_toArray, List.set_cons_zero, List.set_cons_succ]
      refine wpAnyH_take (i := 13) (v := .bool true) rfl (by kernel_rfl) (by kernel_rfl) (by kernel_rfl) (fun _ _ _ h => h) (Or.inl ⟨by rfl, (by intro w' hSw; (try dsimp only at hSw); go_simp)⟩) (by assumption) ?_
      try simp only [Act.put, List.getElem_toArray, List.getElem_cons_zero, List.getElem_cons_succ, List.setIfInBounds_toArray, List.set_cons_zero, List.set_cons_succ]
      have HT := Lib.hid (And.intro (H8.out.1.below hbn) (And.intro hcx (And.intro (below_then H8.out.2.2.2.2.1 hbn) (And.intro (H8.out.2.2.2.2.2.2.1.below hbn) (And.intro (H8.out.2.2.2.2.2.2.2.below hbn) (And.intro (Row.of_own (hR1.kept hgs hR1C)) (Row.of_own (hR2.kept hgs hR2C))))))))
      have q0 : yn.cell? ⟨w7.heap.size, 0, none⟩ = some (.slice a1 m1 k1) := HT.out.1.cell 0
      have q1 : yn.cell? ⟨w7.heap.size, 1, none⟩ = some (.slice a2 m2 k2) := HT.out.1.cell 1
      have q2 : yn.cell? ⟨w7.heap.size, 2, none⟩ = some (.int .i64 E2.N) := HT.out.1.cell 2
      have q3 : yn.cell? ⟨w7.heap.size, 3, none⟩ = some (.int .i64 E2.U) := HT.out.1.cell 3
      have p0 : yn.cell? ⟨gC, 0, none⟩ = some (.slice b1 o1 d1) := HT.out.2.1.cell 0
      have p1 : yn.cell? ⟨gC, 1, none⟩ = some (.slice b2 o2 d2) := HT.out.2.1.cell 1
      have p2 : yn.cell? ⟨gC, 2, none⟩ = some (.int .i64 E2.N) := HT.out.2.1.cell 2
      have p3 : yn.cell? ⟨gC, 3, none⟩ = some (.int .i64 E2.U) := HT.out.2.1.cell 3
      obtain rfl : m1 = o1 := by omega
      obtain rfl : m2 = o2 := by omega
      refine wpAnyH_done (by kernel_rfl) ?_ _
      go_wp2_with (go_at_call 15; (with_reducible refine (same_eff _ E2 a1 m1 k1 a2 m2 k2 b1 d1 b2 d2 hn1 hn2 HT.out.2.2.2.1 HT.out.2.2.2.2.1 HT.out.2.2.2.2.2.1 HT.out.2.2.2.2.2.2).mono ?_); rintro e yF ⟨rfl, hbF⟩; refine Hid.out ?_)
      have HF := Lib.hid (below_then HT.out.2.2.1 hbF)
      clear hbF
      refine Lib.hid ?_
      go_wp2
      go_ret
      exact ⟨rfl, HF.out⟩
    · injection hv with h1 h2 h3
      subst h1 h3
      clear h2
      by_cases hz0' : nu = 0
      · subst hz0'
        obtain rfl : U = [] := List.length_eq_zero_iff.1 hnu
        have HEY := Lib.hid (show EffIs P V [5, 7] 0 true E2 from HE.out)
        have hcmp : (E2.U == (0 : Int)) = true := by rw [hEU]; simp
        clear hEU
        refine Lib.hid ?_
        go_wp2
        refine wp_region_held_drew (S := fun w' => w'.cell? ⟨w1.heap.size, 0, none⟩ = some (.slice (some ⟨gp, 0, none⟩) n c)) (by kernel_rfl) c0 (fun hHeld => ?_)
        obtain ⟨y0, hy0⟩ : ∃ y, w8.drew = y := ⟨_, rfl⟩
        have hb0 : Below w8.heap.size w8 y0 := by rw [← hy0]; exact HD8.out
        rw [hy0] at hHeld ⊢
        clear hy0
        refine wpAnyH_take (i := 0) (v := .agg #[.slice (some ⟨gp, 0, none⟩) n c]) rfl (by kernel_rfl) (by kernel_rfl) (by kernel_rfl) (fun _ _ _ h => h) (Or.inl ⟨by rfl, (by intro w' hSw; (try dsimp only at hSw); go_simp)⟩) (by assumption) ?_
        try simp only [Act.put, List.getElem_toArray, List.getElem_cons_zero, List.setIfInBounds_toArray, List.set_cons_zero, List.set_cons_succ]
        refine wpAnyH_take (i := 1) (v := .slice av 8 cv) rfl (by kernel_rfl) (by kernel_rfl) (by kernel_rfl) (fun _ _ _ h => h) (Or.inl ⟨by rfl, (by intro w' hSw; (try dsimp only at hSw); go_simp)⟩) (by assumption) ?_
        try simp only [Act.put, List.getElem_toArray, List.getElem_cons_zero, List.getElem_cons_succ, List.setIfInBounds_toArray, List.set_cons_zero, List.set_cons_succ]
        refine wpAnyH_take (i := 3) (v := .slice (some ⟨gu, 0, none⟩) 0 cu) rfl (by kernel_rfl) (by kernel_rfl) (by kernel_rfl) (fun _ _ _ h => h) (Or.inl ⟨by rfl, (by intro w' hSw; (try dsimp only at hSw); go_simp)⟩) (by assumption) ?_
        try simp only [Act.put, List.getElem_toArray, List.getElem_cons_zero, List.getElem_cons_succ, List.setIfInBounds_toArray, List.set_cons_zero, List.set_cons_succ]
        clear c0 c1 hb9 hm9 HD8
        revert hHeld
        revert hb0
        revert y0
        intro y hb hHeld
        refine wpAnyH_ready (rs := [2, 5, 11]) (by kernel_rfl) (by simp) ?_
        refine AllReadyH.cons rfl (fun K hK => ?_) ?_
        obtain ⟨yn, hyn⟩ : ∃ z, y.alloc (.cells #[] 3) = z := ⟨_, rfl⟩
        obtain ⟨gA, hgn⟩ : ∃ g, y.heap.size = g := ⟨_, rfl⟩
        have hbn : Below w8.heap.size w8 yn := by rw [← hyn]; exact below_then hb (below_new _ _)
        have hAn : yn.ownsRow w8.heap.size 3 1 (.slice (some ⟨gA, 0, none⟩) 0 0) 0 [] := by rw [← hyn]; exact made_ati y gA w8.heap.size hgn (by rw [← hgn]; exact hb.size) _
        rw [if_pos (by kernel_rfl)]
        go_simp
        (try rw [hyn])
        (try rw [hgn])
        refine hK.out _ _ ((hbn.cell (p := ⟨w1.heap.size, 0, none⟩) hpl).trans (H8.out.2.2.1.cell 0)) (fun hHeldn => ?_)
        try simp only [Act.put, List.getElem_toArray, List.getElem_cons_zero, List.getElem_cons_succ, List.setIfInBounds_toArray, List.set_cons_zero, List.set_cons_succ]
        clear hK K hyn hgn hHeld hb y
        revert hAn
        revert hbn
        revert hHeldn
        revert gA
        revert yn
        refine ?szero100
        rotate_left
        refine AllReadyH.cons rfl (fun K hK => ?_) ?_
        obtain ⟨yn, hyn⟩ : ∃ z, y.alloc (.cells #[.int .i64 5, .int .i64 7] 3) = z := ⟨_, rfl⟩
        obtain ⟨gB, hgn⟩ : ∃ g, y.heap.size = g := ⟨_, rfl⟩
        have hbn : Below w8.heap.size w8 yn := by rw [← hyn]; exact below_then hb (below_new _ _)
        have hBn : Box gB #[.int .i64 5, .int .i64 7] 3 yn := by rw [← hyn, ← hgn]; exact Box.new _ _ _
        rw [if_pos (by kernel_rfl)]
        go_simp
        (try rw [hyn])
        (try rw [hgn])
        refine hK.out _ _ ((hbn.cell (p := ⟨w1.heap.size, 0, none⟩) hpl).trans (H8.out.2.2.1.cell 0)) (fun hHeldn => ?_)
        try simp only [Act.put, List.getElem_toArray, List.getElem_cons_zero, List.getElem_cons_succ, List.setIfInBounds_toArray, List.set_cons_zero, List.set_cons_succ]
        clear hK K hyn hgn hHeld hb y
        revert hBn
        revert hbn
        revert hHeldn
        revert gB
        revert yn
        refine ?szero010
        rotate_left
        refine AllReadyH.cons rfl (fun K hK => ?_) ?_
        obtain ⟨yn, hyn⟩ : ∃ z, y.alloc (.cells zero4E 37) = z := ⟨_, rfl⟩
        obtain ⟨gC, hgn⟩ : ∃ g, y.heap.size = g := ⟨_, rfl⟩
        have hbn : Below w8.heap.size w8 yn := by rw [← hyn]; exact below_then hb (below_new _ _)
        have hCn : Box gC zero4E 37 yn := by rw [← hyn, ← hgn]; exact Box.new _ _ _
        have hCln : w8.heap.size ≤ gC := by rw [← hgn]; exact hb.size
        rw [if_pos (by kernel_rfl)]
        go_simp
        (try rw [hyn])
        (try rw [hgn])
        refine hK.out _ _ ((hbn.cell (p := ⟨w1.heap.size, 0, none⟩) hpl).trans (H8.out.2.2.1.cell 0)) (fun hHeldn => ?_)
        try simp only [Act.put, List.getElem_toArray, List.getElem_cons_zero, List.getElem_cons_succ, List.setIfInBounds_toArray, List.set_cons_zero, List.set_cons_succ]
        clear hK K hyn hgn hHeld hb y
        revert hCln
        revert hCn
        revert hbn
        revert hHeldn
        revert gC
        revert yn
        refine ?szero001
        rotate_left
        exact AllReadyH.nil
        -- carried out: (1, 0, 0)
        intro y gA hHeld hb hA
        refine wpAnyH_ready (rs := [4, 5, 11]) (by kernel_rfl) (by simp) ?_
        refine AllReadyH.cons rfl (fun K hK => ?_) ?_
        rw [if_pos (by kernel_rfl)]
        go_simp
        refine hK.out _ _ ((hb.cell (p := ⟨w1.heap.size, 0, none⟩) hpl).trans (H8.out.2.2.1.cell 0)) (fun hHeldn => ?_)
        try simp only [Act.put, List.getElem_toArray, List.getElem_cons_zero, List.getElem_cons_succ, List.setIfInBounds_toArray, List.set_cons_zero, List.set_cons_succ]
        clear hK K hHeld
        revert hA
        revert hb
        revert hHeldn
        revert gA
        revert y
        refine ?szero200
        rotate_left
        refine AllReadyH.cons rfl (fun K hK => ?_) ?_
        obtain ⟨yn, hyn⟩ : ∃ z, y.alloc (.cells #[.int .i64 5, .int .i64 7] 3) = z := ⟨_, rfl⟩
        obtain ⟨gB, hgn⟩ : ∃ g, y.heap.size = g := ⟨_, rfl⟩
        have hbn : Below w8.heap.size w8 yn := by rw [← hyn]; exact below_then hb (below_new _ _)
        have hAn := hA.alloc (.cells #[.int .i64 5, .int .i64 7] 3)
        rw [hyn] at hAn
        have hBn : Box gB #[.int .i64 5, .int .i64 7] 3 yn := by rw [← hyn, ← hgn]; exact Box.new _ _ _
        have hBAn : gB ≠ gA := by have := (hA.lt gA rfl).2; omega
        rw [if_pos (by kernel_rfl)]
        go_simp
        (try rw [hyn])
        (try rw [hgn])
        refine hK.out _ _ ((hbn.cell (p := ⟨w1.heap.size, 0, none⟩) hpl).trans (H8.out.2.2.1.cell 0)) (fun hHeldn => ?_)
        try simp only [Act.put, List.getElem_toArray, List.getElem_cons_zero, List.getElem_cons_succ, List.setIfInBounds_toArray, List.set_cons_zero, List.set_cons_succ]
        clear hK K hyn hgn hHeld hb hA y
        revert hBAn
        revert hBn
        revert hAn
        revert hbn
        revert hHeldn
        revert gB
        revert gA
        revert yn
        refine ?szero110
        rotate_left
        refine AllReadyH.cons rfl (fun K hK => ?_) ?_
        obtain ⟨yn, hyn⟩ : ∃ z, y.alloc (.cells zero4E 37) = z := ⟨_, rfl⟩
        obtain ⟨gC, hgn⟩ : ∃ g, y.heap.size = g := ⟨_, rfl⟩
        have hbn : Below w8.heap.size w8 yn := by rw [← hyn]; exact below_then hb (below_new _ _)
        have hAn := hA.alloc (.cells zero4E 37)
        rw [hyn] at hAn
        have hCn : Box gC zero4E 37 yn := by rw [← hyn, ← hgn]; exact Box.new _ _ _
        have hCln : w8.heap.size ≤ gC := by rw [← hgn]; exact hb.size
        have hCAn : gC ≠ gA := by have := (hA.lt gA rfl).2; omega
        rw [if_pos (by kernel_rfl)]
        go_simp
        (try rw [hyn])
        (try rw [hgn])
        refine hK.out _ _ ((hbn.cell (p := ⟨w1.heap.size, 0, none⟩) hpl).trans (H8.out.2.2.1.cell 0)) (fun hHeldn => ?_)
        try simp only [Act.put, List.getElem_toArray, List.getElem_cons_zero, List.getElem_cons_succ, List.setIfInBounds_toArray, List.set_cons_zero, List.set_cons_succ]
        clear hK K hyn hgn hHeld hb hA y
        revert hCAn
        revert hCln
        revert hCn
        revert hAn
        revert hbn
        revert hHeldn
        revert gC
        revert gA
        revert yn
        refine ?szero101
        rotate_left
        exact AllReadyH.nil
        -- carried out: (0, 1, 0)
        intro y gB hHeld hb hB
        refine wpAnyH_ready (rs := [2, 11]) (by kernel_rfl) (by simp) ?_
        refine AllReadyH.cons rfl (fun K hK => ?_) ?_
        obtain ⟨yn, hyn⟩ : ∃ z, y.alloc (.cells #[] 3) = z := ⟨_, rfl⟩
        obtain ⟨gA, hgn⟩ : ∃ g, y.heap.size = g := ⟨_, rfl⟩
        have hbn : Below w8.heap.size w8 yn := by rw [← hyn]; exact below_then hb (below_new _ _)
        have hBn := hB.alloc (.cells #[] 3)
        rw [hyn] at hBn
        have hAn : yn.ownsRow w8.heap.size 3 1 (.slice (some ⟨gA, 0, none⟩) 0 0) 0 [] := by rw [← hyn]; exact made_ati y gA w8.heap.size hgn (by rw [← hgn]; exact hb.size) _
        have hBAn : gB ≠ gA := by have := hB.lt; omega
        rw [if_pos (by kernel_rfl)]
        go_simp
        (try rw [hyn])
        (try rw [hgn])
        refine hK.out _ _ ((hbn.cell (p := ⟨w1.heap.size, 0, none⟩) hpl).trans (H8.out.2.2.1.cell 0)) (fun hHeldn => ?_)
        try simp only [Act.put, List.getElem_toArray, List.getElem_cons_zero, List.getElem_cons_succ, List.setIfInBounds_toArray, List.set_cons_zero, List.set_cons_succ]
        clear hK K hyn hgn hHeld hb hB y
        revert hBAn
        revert hBn
        revert hAn
        revert hbn
        revert hHeldn
        revert gB
        revert gA
        revert yn
        refine ?szero110
        refine AllReadyH.cons rfl (fun K hK => ?_) ?_
        obtain ⟨yn, hyn⟩ : ∃ z, y.alloc (.cells zero4E 37) = z := ⟨_, rfl⟩
        obtain ⟨gC, hgn⟩ : ∃ g, y.heap.size = g := ⟨_, rfl⟩
        have hbn : Below w8.heap.size w8 yn := by rw [← hyn]; exact below_then hb (below_new _ _)
        have hBn := hB.alloc (.cells zero4E 37)
        rw [hyn] at hBn
        have hCn : Box gC zero4E 37 yn := by rw [← hyn, ← hgn]; exact Box.new _ _ _
        have hCln : w8.heap.size ≤ gC := by rw [← hgn]; exact hb.size
        rw [if_pos (by kernel_rfl)]
        go_simp
        (try rw [hyn])
        (try rw [hgn])
        refine hK.out _ _ ((hbn.cell (p := ⟨w1.heap.size, 0, none⟩) hpl).trans (H8.out.2.2.1.cell 0)) (fun hHeldn => ?_)
        try simp only [Act.put, List.getElem_toArray, List.getElem_cons_zero, List.getElem_cons_succ, List.setIfInBounds_toArray, List.set_cons_zero, List.set_cons_succ]
        clear hK K hyn hgn hHeld hb hB y
        revert hCln
        revert hCn
        revert hBn
        revert hbn
        revert hHeldn
        revert gC
        revert gB
        revert yn
        refine ?szero011
        rotate_left
        exact AllReadyH.nil
        -- carried out: (0, 0, 1)
        intro y gC hHeld hb hC hCl
        refine wpAnyH_ready (rs := [2, 5]) (by kernel_rfl) (by simp) ?_
        refine AllReadyH.cons rfl (fun K hK => ?_) ?_
        obtain ⟨yn, hyn⟩ : ∃ z, y.alloc (.cells #[] 3) = z := ⟨_, rfl⟩
        obtain ⟨gA, hgn⟩ : ∃ g, y.heap.size = g := ⟨_, rfl⟩
        have hbn : Below w8.heap.size w8 yn := by rw [← hyn]; exact below_then hb (below_new _ _)
        have hCn := hC.alloc (.cells #[] 3)
        rw [hyn] at hCn
        have hAn : yn.ownsRow w8.heap.size 3 1 (.slice (some ⟨gA, 0, none⟩) 0 0) 0 [] := by rw [← hyn]; exact made_ati y gA w8.heap.size hgn (by rw [← hgn]; exact hb.size) _
        have hCAn : gC ≠ gA := by have := hC.lt; omega
        rw [if_pos (by kernel_rfl)]
        go_simp
        (try rw [hyn])
        (try rw [hgn])
        refine hK.out _ _ ((hbn.cell (p := ⟨w1.heap.size, 0, none⟩) hpl).trans (H8.out.2.2.1.cell 0)) (fun hHeldn => ?_)
        try simp only [Act.put, List.getElem_toArray, List.getElem_cons_zero, List.getElem_cons_succ, List.setIfInBounds_toArray, List.set_cons_zero, List.set_cons_succ]
        clear hK K hyn hgn hHeld hb hC y
        revert hCAn
        revert hCl
        revert hCn
        revert hAn
        revert hbn
        revert hHeldn
        revert gC
        revert gA
        revert yn
        refine ?szero101
        refine AllReadyH.cons rfl (fun K hK => ?_) ?_
        obtain ⟨yn, hyn⟩ : ∃ z, y.alloc (.cells #[.int .i64 5, .int .i64 7] 3) = z := ⟨_, rfl⟩
        obtain ⟨gB, hgn⟩ : ∃ g, y.heap.size = g := ⟨_, rfl⟩
        have hbn : Below w8.heap.size w8 yn := by rw [← hyn]; exact below_then hb (below_new _ _)
        have hCn := hC.alloc (.cells #[.int .i64 5, .int .i64 7] 3)
        rw [hyn] at hCn
        have hBn : Box gB #[.int .i64 5, .int .i64 7] 3 yn := by rw [← hyn, ← hgn]; exact Box.new _ _ _
        rw [if_pos (by kernel_rfl)]
        go_simp
        (try rw [hyn])
        (try rw [hgn])
        refine hK.out _ _ ((hbn.cell (p := ⟨w1.heap.size, 0, none⟩) hpl).trans (H8.out.2.2.1.cell 0)) (fun hHeldn => ?_)
        try simp only [Act.put, List.getElem_toArray, List.getElem_cons_zero, List.getElem_cons_succ, List.setIfInBounds_toArray, List.set_cons_zero, List.set_cons_succ]
        clear hK K hyn hgn hHeld hb hC y
        revert hCl
        revert hCn
        revert hBn
        revert hbn
        revert hHeldn
        revert gC
        revert gB
        revert yn
        refine ?szero011
        exact AllReadyH.nil
        -- carried out: (2, 0, 0)
        intro y gA hHeld hb hA
        refine wpAnyH_ready (rs := [5, 11]) (by kernel_rfl) (by simp) ?_
        refine AllReadyH.cons rfl (fun K hK => ?_) ?_
        obtain ⟨yn, hyn⟩ : ∃ z, y.alloc (.cells #[.int .i64 5, .int .i64 7] 3) = z := ⟨_, rfl⟩
        obtain ⟨gB, hgn⟩ : ∃ g, y.heap.size = g := ⟨_, rfl⟩
        have hbn : Below w8.heap.size w8 yn := by rw [← hyn]; exact below_then hb (below_new _ _)
        have hAn := hA.alloc (.cells #[.int .i64 5, .int .i64 7] 3)
        rw [hyn] at hAn
        have hBn : Box gB #[.int .i64 5, .int .i64 7] 3 yn := by rw [← hyn, ← hgn]; exact Box.new _ _ _
        have hBAn : gB ≠ gA := by have := (hA.lt gA rfl).2; omega
        rw [if_pos (by kernel_rfl)]
        go_simp
        (try rw [hyn])
        (try rw [hgn])
        refine hK.out _ _ ((hbn.cell (p := ⟨w1.heap.size, 0, none⟩) hpl).trans (H8.out.2.2.1.cell 0)) (fun hHeldn => ?_)
        try simp only [Act.put, List.getElem_toArray, List.getElem_cons_zero, List.getElem_cons_succ, List.setIfInBounds_toArray, List.set_cons_zero, List.set_cons_succ]
        clear hK K hyn hgn hHeld hb hA y
        revert hBAn
        revert hBn
        revert hAn
        revert hbn
        revert hHeldn
        revert gB
        revert gA
        revert yn
        refine ?szero210
        rotate_left
        refine AllReadyH.cons rfl (fun K hK => ?_) ?_
        obtain ⟨yn, hyn⟩ : ∃ z, y.alloc (.cells zero4E 37) = z := ⟨_, rfl⟩
        obtain ⟨gC, hgn⟩ : ∃ g, y.heap.size = g := ⟨_, rfl⟩
        have hbn : Below w8.heap.size w8 yn := by rw [← hyn]; exact below_then hb (below_new _ _)
        have hAn := hA.alloc (.cells zero4E 37)
        rw [hyn] at hAn
        have hCn : Box gC zero4E 37 yn := by rw [← hyn, ← hgn]; exact Box.new _ _ _
        have hCln : w8.heap.size ≤ gC := by rw [← hgn]; exact hb.size
        have hCAn : gC ≠ gA := by have := (hA.lt gA rfl).2; omega
        rw [if_pos (by kernel_rfl)]
        go_simp
        (try rw [hyn])
        (try rw [hgn])
        refine hK.out _ _ ((hbn.cell (p := ⟨w1.heap.size, 0, none⟩) hpl).trans (H8.out.2.2.1.cell 0)) (fun hHeldn => ?_)
        try simp only [Act.put, List.getElem_toArray, List.getElem_cons_zero, List.getElem_cons_succ, List.setIfInBounds_toArray, List.set_cons_zero, List.set_cons_succ]
        clear hK K hyn hgn hHeld hb hA y
        revert hCAn
        revert hCln
        revert hCn
        revert hAn
        revert hbn
        revert hHeldn
        revert gC
        revert gA
        revert yn
        refine ?szero201
        rotate_left
        exact AllReadyH.nil
        -- carried out: (1, 1, 0)
        intro y gA gB hHeld hb hA hB hBA
        refine wpAnyH_ready (rs := [4, 11]) (by kernel_rfl) (by simp) ?_
        refine AllReadyH.cons rfl (fun K hK => ?_) ?_
        rw [if_pos (by kernel_rfl)]
        go_simp
        refine hK.out _ _ ((hb.cell (p := ⟨w1.heap.size, 0, none⟩) hpl).trans (H8.out.2.2.1.cell 0)) (fun hHeldn => ?_)
        try simp only [Act.put, List.getElem_toArray, List.getElem_cons_zero, List.getElem_cons_succ, List.setIfInBounds_toArray, List.set_cons_zero, List.set_cons_succ]
        clear hK K hHeld
        revert hBA
        revert hB
        revert hA
        revert hb
        revert hHeldn
        revert gB
        revert gA
        revert y
        refine ?szero210
        refine AllReadyH.cons rfl (fun K hK => ?_) ?_
        obtain ⟨yn, hyn⟩ : ∃ z, y.alloc (.cells zero4E 37) = z := ⟨_, rfl⟩
        obtain ⟨gC, hgn⟩ : ∃ g, y.heap.size = g := ⟨_, rfl⟩
        have hbn : Below w8.heap.size w8 yn := by rw [← hyn]; exact below_then hb (below_new _ _)
        have hBn := hB.alloc (.cells zero4E 37)
        rw [hyn] at hBn
        have hAn := hA.alloc (.cells zero4E 37)
        rw [hyn] at hAn
        have hCn : Box gC zero4E 37 yn := by rw [← hyn, ← hgn]; exact Box.new _ _ _
        have hCln : w8.heap.size ≤ gC := by rw [← hgn]; exact hb.size
        have hCAn : gC ≠ gA := by have := (hA.lt gA rfl).2; omega
        rw [if_pos (by kernel_rfl)]
        go_simp
        (try rw [hyn])
        (try rw [hgn])
        refine hK.out _ _ ((hbn.cell (p := ⟨w1.heap.size, 0, none⟩) hpl).trans (H8.out.2.2.1.cell 0)) (fun hHeldn => ?_)
        try simp only [Act.put, List.getElem_toArray, List.getElem_cons_zero, List.getElem_cons_succ, List.setIfInBounds_toArray, List.set_cons_zero, List.set_cons_succ]
        clear hK K hyn hgn hHeld hb hA hB y
        revert hCAn
        revert hBA
        revert hCln
        revert hCn
        revert hBn
        revert hAn
        revert hbn
        revert hHeldn
        revert gC
        revert gB
        revert gA
        revert yn
        refine ?szero111
        rotate_left
        exact AllReadyH.nil
        -- carried out: (1, 0, 1)
        intro y gA gC hHeld hb hA hC hCl hCA
        refine wpAnyH_ready (rs := [4, 5]) (by kernel_rfl) (by simp) ?_
        refine AllReadyH.cons rfl (fun K hK => ?_) ?_
        rw [if_pos (by kernel_rfl)]
        go_simp
        refine hK.out _ _ ((hb.cell (p := ⟨w1.heap.size, 0, none⟩) hpl).trans (H8.out.2.2.1.cell 0)) (fun hHeldn => ?_)
        try simp only [Act.put, List.getElem_toArray, List.getElem_cons_zero, List.getElem_cons_succ, List.setIfInBounds_toArray, List.set_cons_zero, List.set_cons_succ]
        clear hK K hHeld
        revert hCA
        revert hCl
        revert hC
        revert hA
        revert hb
        revert hHeldn
        revert gC
        revert gA
        revert y
        refine ?szero201
        refine AllReadyH.cons rfl (fun K hK => ?_) ?_
        obtain ⟨yn, hyn⟩ : ∃ z, y.alloc (.cells #[.int .i64 5, .int .i64 7] 3) = z := ⟨_, rfl⟩
        obtain ⟨gB, hgn⟩ : ∃ g, y.heap.size = g := ⟨_, rfl⟩
        have hbn : Below w8.heap.size w8 yn := by rw [← hyn]; exact below_then hb (below_new _ _)
        have hCn := hC.alloc (.cells #[.int .i64 5, .int .i64 7] 3)
        rw [hyn] at hCn
        have hAn := hA.alloc (.cells #[.int .i64 5, .int .i64 7] 3)
        rw [hyn] at hAn
        have hBn : Box gB #[.int .i64 5, .int .i64 7] 3 yn := by rw [← hyn, ← hgn]; exact Box.new _ _ _
        have hBAn : gB ≠ gA := by have := (hA.lt gA rfl).2; omega
        rw [if_pos (by kernel_rfl)]
        go_simp
        (try rw [hyn])
        (try rw [hgn])
        refine hK.out _ _ ((hbn.cell (p := ⟨w1.heap.size, 0, none⟩) hpl).trans (H8.out.2.2.1.cell 0)) (fun hHeldn => ?_)
        try simp only [Act.put, List.getElem_toArray, List.getElem_cons_zero, List.getElem_cons_succ, List.setIfInBounds_toArray, List.set_cons_zero, List.set_cons_succ]
        clear hK K hyn hgn hHeld hb hA hC y
        revert hCA
        revert hBAn
        revert hCl
        revert hCn
        revert hBn
        revert hAn
        revert hbn
        revert hHeldn
        revert gC
        revert gB
        revert gA
        revert yn
        refine ?szero111
        exact AllReadyH.nil
        -- carried out: (0, 1, 1)
        intro y gB gC hHeld hb hB hC hCl
        refine wpAnyH_ready (rs := [2]) (by kernel_rfl) (by simp) ?_
        refine AllReadyH.cons rfl (fun K hK => ?_) ?_
        obtain ⟨yn, hyn⟩ : ∃ z, y.alloc (.cells #[] 3) = z := ⟨_, rfl⟩
        obtain ⟨gA, hgn⟩ : ∃ g, y.heap.size = g := ⟨_, rfl⟩
        have hbn : Below w8.heap.size w8 yn := by rw [← hyn]; exact below_then hb (below_new _ _)
        have hBn := hB.alloc (.cells #[] 3)
        rw [hyn] at hBn
        have hCn := hC.alloc (.cells #[] 3)
        rw [hyn] at hCn
        have hAn : yn.ownsRow w8.heap.size 3 1 (.slice (some ⟨gA, 0, none⟩) 0 0) 0 [] := by rw [← hyn]; exact made_ati y gA w8.heap.size hgn (by rw [← hgn]; exact hb.size) _
        have hBAn : gB ≠ gA := by have := hB.lt; omega
        have hCAn : gC ≠ gA := by have := hC.lt; omega
        rw [if_pos (by kernel_rfl)]
        go_simp
        (try rw [hyn])
        (try rw [hgn])
        refine hK.out _ _ ((hbn.cell (p := ⟨w1.heap.size, 0, none⟩) hpl).trans (H8.out.2.2.1.cell 0)) (fun hHeldn => ?_)
        try simp only [Act.put, List.getElem_toArray, List.getElem_cons_zero, List.getElem_cons_succ, List.setIfInBounds_toArray, List.set_cons_zero, List.set_cons_succ]
        clear hK K hyn hgn hHeld hb hB hC y
        revert hCAn
        revert hBAn
        revert hCl
        revert hCn
        revert hBn
        revert hAn
        revert hbn
        revert hHeldn
        revert gC
        revert gB
        revert gA
        revert yn
        refine ?szero111
        exact AllReadyH.nil
        -- carried out: (2, 1, 0)
        intro y gA gB hHeld hb hA hB hBA
        refine wpAnyH_ready (rs := [6, 11]) (by kernel_rfl) (by simp) ?_
        refine AllReadyH.cons rfl (fun K hK => ?_) ?_
        refine step_append_lies _ (by rfl) _ _ _ (by rfl) w8.heap.size 3 i0 (.int .i64 0) 1 8 Try.underlying28 hi hz0 hz1 hz2 rfl (by decide) _ 0 _ (by rfl) hA ⟨gB, 0, none⟩ 2 2 [.int .i64 5, .int .i64 7] (by rfl) (by rfl) (World.news_of_block (cs := #[.int .i64 5, .int .i64 7]) (t := 3) (fr := (0, 0)) hB) (by simp [Value.oneCell']) (by omega) (by unfold maxLen; omega) (by omega) hb.size y.heap.size rfl ?_
        intro gN cN yn hAn hgn hatn hltn
        (try simp only [Nat.zero_add, List.nil_append] at hAn ⊢)
        have hbn : Below w8.heap.size w8 yn := hb.grown hgn hb.size (fun q hq => (hA.lt q hq).1)
        have hxn : gN = gA ∨ gN = y.heap.size := by
          rcases hatn with h | h
          · exact .inl (Option.some.inj h).symm
          · exact .inr h
        refine hK.out _ _ ((hbn.cell (p := ⟨w1.heap.size, 0, none⟩) hpl).trans (H8.out.2.2.1.cell 0)) (fun hHeldn => ?_)
        try simp only [Act.put, List.getElem_toArray, List.getElem_cons_zero, List.getElem_cons_succ, List.setIfInBounds_toArray, List.set_cons_zero, List.set_cons_succ]
        clear hK K hgn hatn hltn hxn hHeld hb hA hB hBA y
        revert hAn
        revert hbn
        revert hHeldn
        revert gB
        revert cN
        revert gN
        revert gA
        revert yn
        refine ?szero310
        rotate_left
        refine AllReadyH.cons rfl (fun K hK => ?_) ?_
        obtain ⟨yn, hyn⟩ : ∃ z, y.alloc (.cells zero4E 37) = z := ⟨_, rfl⟩
        obtain ⟨gC, hgn⟩ : ∃ g, y.heap.size = g := ⟨_, rfl⟩
        have hbn : Below w8.heap.size w8 yn := by rw [← hyn]; exact below_then hb (below_new _ _)
        have hBn := hB.alloc (.cells zero4E 37)
        rw [hyn] at hBn
        have hAn := hA.alloc (.cells zero4E 37)
        rw [hyn] at hAn
        have hCn : Box gC zero4E 37 yn := by rw [← hyn, ← hgn]; exact Box.new _ _ _
        have hCln : w8.heap.size ≤ gC := by rw [← hgn]; exact hb.size
        have hCAn : gC ≠ gA := by have := (hA.lt gA rfl).2; omega
        rw [if_pos (by kernel_rfl)]
        go_simp
        (try rw [hyn])
        (try rw [hgn])
        refine hK.out _ _ ((hbn.cell (p := ⟨w1.heap.size, 0, none⟩) hpl).trans (H8.out.2.2.1.cell 0)) (fun hHeldn => ?_)
        try simp only [Act.put, List.getElem_toArray, List.getElem_cons_zero, List.getElem_cons_succ, List.setIfInBounds_toArray, List.set_cons_zero, List.set_cons_succ]
        clear hK K hyn hgn hHeld hb hA hB y
        revert hCAn
        revert hBA
        revert hCln
        revert hCn
        revert hBn
        revert hAn
        revert hbn
        revert hHeldn
        revert gC
        revert gB
        revert gA
        revert yn
        refine ?szero211
        rotate_left
        exact AllReadyH.nil
        -- carried out: (2, 0, 1)
        intro y gA gC hHeld hb hA hC hCl hCA
        refine wpAnyH_ready (rs := [5]) (by kernel_rfl) (by simp) ?_
        refine AllReadyH.cons rfl (fun K hK => ?_) ?_
        obtain ⟨yn, hyn⟩ : ∃ z, y.alloc (.cells #[.int .i64 5, .int .i64 7] 3) = z := ⟨_, rfl⟩
        obtain ⟨gB, hgn⟩ : ∃ g, y.heap.size = g := ⟨_, rfl⟩
        have hbn : Below w8.heap.size w8 yn := by rw [← hyn]; exact below_then hb (below_new _ _)
        have hCn := hC.alloc (.cells #[.int .i64 5, .int .i64 7] 3)
        rw [hyn] at hCn
        have hAn := hA.alloc (.cells #[.int .i64 5, .int .i64 7] 3)
        rw [hyn] at hAn
        have hBn : Box gB #[.int .i64 5, .int .i64 7] 3 yn := by rw [← hyn, ← hgn]; exact Box.new _ _ _
        have hBAn : gB ≠ gA := by have := (hA.lt gA rfl).2; omega
        rw [if_pos (by kernel_rfl)]
        go_simp
        (try rw [hyn])
        (try rw [hgn])
        refine hK.out _ _ ((hbn.cell (p := ⟨w1.heap.size, 0, none⟩) hpl).trans (H8.out.2.2.1.cell 0)) (fun hHeldn => ?_)
        try simp only [Act.put, List.getElem_toArray, List.getElem_cons_zero, List.getElem_cons_succ, List.setIfInBounds_toArray, List.set_cons_zero, List.set_cons_succ]
        clear hK K hyn hgn hHeld hb hA hC y
        revert hCA
        revert hBAn
        revert hCl
        revert hCn
        revert hBn
        revert hAn
        revert hbn
        revert hHeldn
        revert gC
        revert gB
        revert gA
        revert yn
        refine ?szero211
        exact AllReadyH.nil
        -- carried out: (1, 1, 1)
        intro y gA gB gC hHeld hb hA hB hC hCl hBA hCA
        refine wpAnyH_ready (rs := [4]) (by kernel_rfl) (by simp) ?_
        refine AllReadyH.cons rfl (fun K hK => ?_) ?_
        rw [if_pos (by kernel_rfl)]
        go_simp
        refine hK.out _ _ ((hb.cell (p := ⟨w1.heap.size, 0, none⟩) hpl).trans (H8.out.2.2.1.cell 0)) (fun hHeldn => ?_)
        try simp only [Act.put, List.getElem_toArray, List.getElem_cons_zero, List.getElem_cons_succ, List.setIfInBounds_toArray, List.set_cons_zero, List.set_cons_succ]
        clear hK K hHeld
        revert hCA
        revert hBA
        revert hCl
        revert hC
        revert hB
        revert hA
        revert hb
        revert hHeldn
        revert gC
        revert gB
        revert gA
        revert y
        refine ?szero211
        exact AllReadyH.nil
        -- carried out: (3, 1, 0)
        intro y g0 gA cA gB hHeld hb hA
        refine wpAnyH_ready (rs := [7, 11]) (by kernel_rfl) (by simp) ?_
        refine AllReadyH.cons rfl (fun K hK => ?_) ?_
        rw [if_pos (by kernel_rfl)]
        go_simp
        go_at_call 12
        refine (impl_taskeffect (some ⟨gp, 0, none⟩) n c P HSZ.out hnc _ (H8.out.2.2.2.1.below hb) av 8 cv V (by decide) hcv (Row.of_own (H8.out.2.1.kept (grown_below hb none) (by cases av <;> simp [Value.ownBlock]))) (some ⟨gA, 0, none⟩) _ cA [5, 7] (by omega) (own_le hA) (Row.of_own (L := [5, 7]) (by simpa [ivs] using hA)) 0 true E2 HEY.out).mono ?_
        rintro e yn ⟨b1, o1, d1, b2, o2, d2, rfl, hmn, hbc⟩
        have hbn : Below w8.heap.size w8 yn := below_then hb hbc
        have ho1n : E2.V.length = o1 := own_len hmn.1
        have ho2n : E2.S.length = o2 := own_len hmn.2.1
        have hR1n := hmn.1.mono hb.size
        have hR2n := hmn.2.1.mono hb.size
        refine hK.out _ _ ((hbn.cell (p := ⟨w1.heap.size, 0, none⟩) hpl).trans (H8.out.2.2.1.cell 0)) (fun hHeldn => ?_)
        try simp only [Act.put, List.getElem_toArray, List.getElem_cons_zero, List.getElem_cons_succ, List.setIfInBounds_toArray, List.set_cons_zero, List.set_cons_succ]
        refine wpAnyH_take (i := 8) (v := .tuple #[effV b1 o1 d1 b2 o2 d2 E2, .bool true]) rfl (by kernel_rfl) (by kernel_rfl) (by kernel_rfl) (fun _ _ _ h => h) (Or.inl ⟨by rfl, (by intro w' hSw; (try dsimp only at hSw); go_simp)⟩) (by assumption) ?_
        try simp only [Act.put, List.getElem_toArray, List.getElem_cons_zero, List.getElem_cons_succ, List.setIfInBounds_toArray, List.set_cons_zero, List.set_cons_succ]
        refine wpAnyH_take (i := 9) (v := effV b1 o1 d1 b2 o2 d2 E2) rfl (by kernel_rfl) (by kernel_rfl) (by kernel_rfl) (fun _ _ _ h => h) (Or.inl ⟨by rfl, (by intro w' hSw; (try dsimp only at hSw); go_simp)⟩) (by assumption) ?_
        try simp only [Act.put, List.getElem_toArray, List.getElem_cons_zero, List.getElem_cons_succ, List.setIfInBounds_toArray, List.set_cons_zero, List.set_cons_succ]
        refine wpAnyH_take (i := 10) (v := .bool true) rfl (by kernel_rfl) (by kernel_rfl) (by kernel_rfl) (fun _ _ _ h => h) (Or.inl ⟨by rfl, (by intro w' hSw; (try dsimp only at hSw); go_simp)⟩) (by assumption) ?_
        try simp only [Act.put, List.getElem_toArray, List.getElem_cons_zero, List.getElem_cons_succ, List.setIfInBounds_toArray, List.set_cons_zero, List.set_cons_succ]
        clear hK K hmn hbc hHeld hb hA y
        revert hR2n
        revert hR1n
        revert ho2n
        revert ho1n
        revert hbn
        revert hHeldn
        revert d2
        revert o2
        revert b2
        revert d1
        revert o1
        revert b1
        revert gB
        revert cA
        revert gA
        revert g0
        revert yn
        refine ?szero410
        rotate_left
        refine AllReadyH.cons rfl (fun K hK => ?_) ?_
        obtain ⟨yn, hyn⟩ : ∃ z, y.alloc (.cells zero4E 37) = z := ⟨_, rfl⟩
        obtain ⟨gC, hgn⟩ : ∃ g, y.heap.size = g := ⟨_, rfl⟩
        have hbn : Below w8.heap.size w8 yn := by rw [← hyn]; exact below_then hb (below_new _ _)
        have hAn := hA.alloc (.cells zero4E 37)
        rw [hyn] at hAn
        have hCn : Box gC zero4E 37 yn := by rw [← hyn, ← hgn]; exact Box.new _ _ _
        have hCln : w8.heap.size ≤ gC := by rw [← hgn]; exact hb.size
        rw [if_pos (by kernel_rfl)]
        go_simp
        (try rw [hyn])
        (try rw [hgn])
        refine hK.out _ _ ((hbn.cell (p := ⟨w1.heap.size, 0, none⟩) hpl).trans (H8.out.2.2.1.cell 0)) (fun hHeldn => ?_)
        try simp only [Act.put, List.getElem_toArray, List.getElem_cons_zero, List.getElem_cons_succ, List.setIfInBounds_toArray, List.set_cons_zero, List.set_cons_succ]
        clear hK K hyn hgn hHeld hb hA y
        revert hCln
        revert hCn
        revert hAn
        revert hbn
        revert hHeldn
        revert gC
        revert gB
        revert cA
        revert gA
        revert g0
        revert yn
        refine ?szero311
        rotate_left
        exact AllReadyH.nil
        -- carried out: (2, 1, 1)
        intro y gA gB gC hHeld hb hA hB hC hCl hBA hCA
        refine wpAnyH_ready (rs := [6]) (by kernel_rfl) (by simp) ?_
        refine AllReadyH.cons rfl (fun K hK => ?_) ?_
        refine step_append_lies _ (by rfl) _ _ _ (by rfl) w8.heap.size 3 i0 (.int .i64 0) 1 8 Try.underlying28 hi hz0 hz1 hz2 rfl (by decide) _ 0 _ (by rfl) hA ⟨gB, 0, none⟩ 2 2 [.int .i64 5, .int .i64 7] (by rfl) (by rfl) (World.news_of_block (cs := #[.int .i64 5, .int .i64 7]) (t := 3) (fr := (0, 0)) hB) (by simp [Value.oneCell']) (by omega) (by unfold maxLen; omega) (by omega) hb.size y.heap.size rfl ?_
        intro gN cN yn hAn hgn hatn hltn
        (try simp only [Nat.zero_add, List.nil_append] at hAn ⊢)
        have hbn : Below w8.heap.size w8 yn := hb.grown hgn hb.size (fun q hq => (hA.lt q hq).1)
        have hxn : gN = gA ∨ gN = y.heap.size := by
          rcases hatn with h | h
          · exact .inl (Option.some.inj h).symm
          · exact .inr h
        have hCn := hC.grown hgn (fun e => by have h9 : gC = gA := Option.some.inj e; omega)
        refine hK.out _ _ ((hbn.cell (p := ⟨w1.heap.size, 0, none⟩) hpl).trans (H8.out.2.2.1.cell 0)) (fun hHeldn => ?_)
        try simp only [Act.put, List.getElem_toArray, List.getElem_cons_zero, List.getElem_cons_succ, List.setIfInBounds_toArray, List.set_cons_zero, List.set_cons_succ]
        clear hK K hgn hatn hltn hxn hHeld hb hA hB hC hBA hCA y
        revert hCl
        revert hCn
        revert hAn
        revert hbn
        revert hHeldn
        revert gC
        revert gB
        revert cN
        revert gN
        revert gA
        revert yn
        refine ?szero311
        exact AllReadyH.nil
        -- carried out: (4, 1, 0)
        intro y g0 gA cA gB b1 o1 d1 b2 o2 d2 hHeld hb ho1 ho2 hR1 hR2
        refine wpAnyH_ready (rs := [11]) (by kernel_rfl) (by simp) ?_
        refine AllReadyH.cons rfl (fun K hK => ?_) ?_
        obtain ⟨yn, hyn⟩ : ∃ z, y.alloc (.cells zero4E 37) = z := ⟨_, rfl⟩
        obtain ⟨gC, hgn⟩ : ∃ g, y.heap.size = g := ⟨_, rfl⟩
        have hbn : Below w8.heap.size w8 yn := by rw [← hyn]; exact below_then hb (below_new _ _)
        have hR1n := hR1.alloc (.cells zero4E 37)
        rw [hyn] at hR1n
        have hR2n := hR2.alloc (.cells zero4E 37)
        rw [hyn] at hR2n
        have hCn : Box gC zero4E 37 yn := by rw [← hyn, ← hgn]; exact Box.new _ _ _
        have hCln : w8.heap.size ≤ gC := by rw [← hgn]; exact hb.size
        have hR1Cn := ne_own hR1.lt (.inr (show y.heap.size ≤ gC by omega))
        have hR2Cn := ne_own hR2.lt (.inr (show y.heap.size ≤ gC by omega))
        rw [if_pos (by kernel_rfl)]
        go_simp
        (try rw [hyn])
        (try rw [hgn])
        refine hK.out _ _ ((hbn.cell (p := ⟨w1.heap.size, 0, none⟩) hpl).trans (H8.out.2.2.1.cell 0)) (fun hHeldn => ?_)
        try simp only [Act.put, List.getElem_toArray, List.getElem_cons_zero, List.getElem_cons_succ, List.setIfInBounds_toArray, List.set_cons_zero, List.set_cons_succ]
        clear hK K hyn hgn hHeld hb hR1 hR2 y
        revert hR2Cn
        revert hR1Cn
        revert hR2n
        revert hR1n
        revert ho2
        revert ho1
        revert hCln
        revert hCn
        revert hbn
        revert hHeldn
        revert d2
        revert o2
        revert b2
        revert d1
        revert o1
        revert b1
        revert gC
        revert gB
        revert cA
        revert gA
        revert g0
        revert yn
        refine ?szero411
        rotate_left
        exact AllReadyH.nil
        -- carried out: (3, 1, 1)
        intro y g0 gA cA gB gC hHeld hb hA hC hCl
        refine wpAnyH_ready (rs := [7]) (by kernel_rfl) (by simp) ?_
        refine AllReadyH.cons rfl (fun K hK => ?_) ?_
        rw [if_pos (by kernel_rfl)]
        go_simp
        go_at_call 12
        refine (impl_taskeffect (some ⟨gp, 0, none⟩) n c P HSZ.out hnc _ (H8.out.2.2.2.1.below hb) av 8 cv V (by decide) hcv (Row.of_own (H8.out.2.1.kept (grown_below hb none) (by cases av <;> simp [Value.ownBlock]))) (some ⟨gA, 0, none⟩) _ cA [5, 7] (by omega) (own_le hA) (Row.of_own (L := [5, 7]) (by simpa [ivs] using hA)) 0 true E2 HEY.out).mono ?_
        rintro e yn ⟨b1, o1, d1, b2, o2, d2, rfl, hmn, hbc⟩
        have hbn : Below w8.heap.size w8 yn := below_then hb hbc
        have ho1n : E2.V.length = o1 := own_len hmn.1
        have ho2n : E2.S.length = o2 := own_len hmn.2.1
        have hR1n := hmn.1.mono hb.size
        have hR2n := hmn.2.1.mono hb.size
        have hCn := hC.below hbc
        have hR1Cn := ne_own hmn.1.lt (.inl hC.lt)
        have hR2Cn := ne_own hmn.2.1.lt (.inl hC.lt)
        refine hK.out _ _ ((hbn.cell (p := ⟨w1.heap.size, 0, none⟩) hpl).trans (H8.out.2.2.1.cell 0)) (fun hHeldn => ?_)
        try simp only [Act.put, List.getElem_toArray, List.getElem_cons_zero, List.getElem_cons_succ, List.setIfInBounds_toArray, List.set_cons_zero, List.set_cons_succ]
        refine wpAnyH_take (i := 8) (v := .tuple #[effV b1 o1 d1 b2 o2 d2 E2, .bool true]) rfl (by kernel_rfl) (by kernel_rfl) (by kernel_rfl) (fun _ _ _ h => h) (Or.inl ⟨by rfl, (by intro w' hSw; (try dsimp only at hSw); go_simp)⟩) (by assumption) ?_
        try simp only [Act.put, List.getElem_toArray, List.getElem_cons_zero, List.getElem_cons_succ, List.setIfInBounds_toArray, List.set_cons_zero, List.set_cons_succ]
        refine wpAnyH_take (i := 9) (v := effV b1 o1 d1 b2 o2 d2 E2) rfl (by kernel_rfl) (by kernel_rfl) (by kernel_rfl) (fun _ _ _ h => h) (Or.inl ⟨by rfl, (by intro w' hSw; (try dsimp only at hSw); go_simp)⟩) (by assumption) ?_
        try simp only [Act.put, List.getElem_toArray, List.getElem_cons_zero, List.getElem_cons_succ, List.setIfInBounds_toArray, List.set_cons_zero, List.set_cons_succ]
        refine wpAnyH_take (i := 10) (v := .bool true) rfl (by kernel_rfl) (by kernel_rfl) (by kernel_rfl) (fun _ _ _ h => h) (Or.inl ⟨by rfl, (by intro w' hSw; (try dsimp only at hSw); go_simp)⟩) (by assumption) ?_
        try simp only [Act.put, List.getElem_toArray, List.getElem_cons_zero, List.getElem_cons_succ, List.setIfInBounds_toArray, List.set_cons_zero, List.set_cons_succ]
        clear hK K hmn hbc hHeld hb hA hC y
        revert hR2Cn
        revert hR1Cn
        revert hR2n
        revert hR1n
        revert ho2n
        revert ho1n
        revert hCl
        revert hCn
        revert hbn
        revert hHeldn
        revert d2
        revert o2
        revert b2
        revert d1
        revert o1
        revert b1
        revert gC
        revert gB
        revert cA
        revert gA
        revert g0
        revert yn
        refine ?szero411
        exact AllReadyH.nil
        -- carried out: (4, 1, 1)
        intro y g0 gA cA gB gC b1 o1 d1 b2 o2 d2 hHeld hb hC hCl ho1 ho2 hR1 hR2 hR1C hR2C
        refine wpAnyH_ready (rs := [12]) (by kernel_rfl) (by simp) ?_
        refine AllReadyH.cons rfl (fun K hK => ?_) AllReadyH.nil
        have z0 : y.cell? ⟨gC, 0, none⟩ = some (.slice none 0 0) := hC.cell 0
        have f0 : y.frozen? ⟨gC, 0, none⟩ = false := hC.frozen 0
        have z1 : y.cell? ⟨gC, 1, none⟩ = some (.slice none 0 0) := hC.cell 1
        have f1 : y.frozen? ⟨gC, 1, none⟩ = false := hC.frozen 1
        have z2 : y.cell? ⟨gC, 2, none⟩ = some (.int .i64 0) := hC.cell 2
        have f2 : y.frozen? ⟨gC, 2, none⟩ = false := hC.frozen 2
        have z3 : y.cell? ⟨gC, 3, none⟩ = some (.int .i64 0) := hC.cell 3
        have f3 : y.frozen? ⟨gC, 3, none⟩ = false := hC.frozen 3
        have hgs : y.grownBy ((((y.setCell ⟨gC, 0, none⟩ (.slice b1 o1 d1)).setCell ⟨gC, 1, none⟩ (.slice b2 o2 d2)).setCell ⟨gC, 2, none⟩ (.int .i64 E2.N)).setCell ⟨gC, 3, none⟩ (.int .i64 E2.U)) (some gC) := grown_trans (grown_trans (grown_trans (grown_setCell _ _ _ _) (grown_setCell _ _ _ _)) (grown_setCell _ _ _ _)) (grown_setCell _ _ _ _)
        have hcx : Box gC #[.slice b1 o1 d1, .slice b2 o2 d2, .int .i64 E2.N, .int .i64 E2.U] 37 ((((y.setCell ⟨gC, 0, none⟩ (.slice b1 o1 d1)).setCell ⟨gC, 1, none⟩ (.slice b2 o2 d2)).setCell ⟨gC, 2, none⟩ (.int .i64 E2.N)).setCell ⟨gC, 3, none⟩ (.int .i64 E2.U)) := (((hC.set 0 _).set 1 _).set 2 _).set 3 _
        obtain ⟨yn, hyn⟩ : ∃ z, (((y.setCell ⟨gC, 0, none⟩ (.slice b1 o1 d1)).setCell ⟨gC, 1, none⟩ (.slice b2 o2 d2)).setCell ⟨gC, 2, none⟩ (.int .i64 E2.N)).setCell ⟨gC, 3, none⟩ (.int .i64 E2.U) = z := ⟨_, rfl⟩
        rw [hyn] at hgs hcx
        have hbn : Below w8.heap.size w8 yn := hb.grown hgs hb.size (fun q hq => by cases hq; exact hCl)
        rw [if_pos (by kernel_rfl)]
        go_simp
        (try rw [hyn])
        refine hK.out _ _ ((hbn.cell (p := ⟨w1.heap.size, 0, none⟩) hpl).trans (H8.out.2.2.1.cell 0)) (fun hHeldn => ?_)
        clear hK K hyn z0 z1 z2 z3 f0 f1 f2 f3
        try simp only [Act.put, List.getElem_toArray, List.getElem_cons_zero, List.getElem_cons_succ, List.setIfInBounds_toArray, List.set_cons_zero, List.set_cons_succ]
        refine wpAnyH_take (i := 13) (v := .bool true) rfl (by kernel_rfl) (by kernel_rfl) (by kernel_rfl) (fun _ _ _ h => h) (Or.inl ⟨by rfl, (by intro w' hSw; (try dsimp only at hSw); go_simp)⟩) (by assumption) ?_
        try simp only [Act.put, List.getElem_toArray, List.getElem_cons_zero, List.getElem_cons_succ, List.setIfInBounds_toArray, List.set_cons_zero, List.set_cons_succ]
        have HT := Lib.hid (And.intro (H8.out.1.below hbn) (And.intro hcx (And.intro (below_then H8.out.2.2.2.2.1 hbn) (And.intro (H8.out.2.2.2.2.2.2.1.below hbn) (And.intro (H8.out.2.2.2.2.2.2.2.below hbn) (And.intro (Row.of_own (hR1.kept hgs hR1C)) (Row.of_own (hR2.kept hgs hR2C))))))))
        have q0 : yn.cell? ⟨w7.heap.size, 0, none⟩ = some (.slice a1 m1 k1) := HT.out.1.cell 0
        have q1 : yn.cell? ⟨w7.heap.size, 1, none⟩ = some (.slice a2 m2 k2) := HT.out.1.cell 1
        have q2 : yn.cell? ⟨w7.heap.size, 2, none⟩ = some (.int .i64 E2.N) := HT.out.1.cell 2
        have q3 : yn.cell? ⟨w7.heap.size, 3, none⟩ = some (.int .i64 E2.U) := HT.out.1.cell 3
        have p0 : yn.cell? ⟨gC, 0, none⟩ = some (.slice b1 o1 d1) := HT.out.2.1.cell 0
        have p1 : yn.cell? ⟨gC, 1, none⟩ = some (.slice b2 o2 d2) := HT.out.2.1.cell 1
        have p2 : yn.cell? ⟨gC, 2, none⟩ = some (.int .i64 E2.N) := HT.out.2.1.cell 2
        have p3 : yn.cell? ⟨gC, 3, none⟩ = some (.int .i64 E2.U) := HT.out.2.1.cell 3
        obtain rfl : m1 = o1 := by omega
        obtain rfl : m2 = o2 := by omega
        refine wpAnyH_done (by kernel_rfl) ?_ _
        go_wp2_with (go_at_call 15; (with_reducible refine (same_eff _ E2 a1 m1 k1 a2 m2 k2 b1 d1 b2 d2 hn1 hn2 HT.out.2.2.2.1 HT.out.2.2.2.2.1 HT.out.2.2.2.2.2.1 HT.out.2.2.2.2.2.2).mono ?_); rintro e yF ⟨rfl, hbF⟩; refine Hid.out ?_)
        have HF := Lib.hid (below_then HT.out.2.2.1 hbF)
        clear hbF
        refine Lib.hid ?_
        go_wp2
        go_ret
        exact ⟨rfl, HF.out⟩
      · have hnup : 0 < nu := by omega
        have HEY := Lib.hid (show EffIs P V (U ++ [5, 7]) 0 true E2 from HE.out)
        have hcmp : (E2.U == (nu : Int)) = true := by rw [hEU, hnu]; simp
        clear hEU
        refine Lib.hid ?_
        go_wp2
        refine wp_region_held_drew (S := fun w' => w'.cell? ⟨w1.heap.size, 0, none⟩ = some (.slice (some ⟨gp, 0, none⟩) n c)) (by kernel_rfl) c0 (fun hHeld => ?_)
        obtain ⟨y0, hy0⟩ : ∃ y, w8.drew = y := ⟨_, rfl⟩
        have hb0 : Below w8.heap.size w8 y0 := by rw [← hy0]; exact HD8.out
        rw [hy0] at hHeld ⊢
        clear hy0
        refine wpAnyH_take (i := 0) (v := .agg #[.slice (some ⟨gp, 0, none⟩) n c]) rfl (by kernel_rfl) (by kernel_rfl) (by kernel_rfl) (fun _ _ _ h => h) (Or.inl ⟨by rfl, (by intro w' hSw; (try dsimp only at hSw); go_simp)⟩) (by assumption) ?_
        try simp only [Act.put, List.getElem_toArray, List.getElem_cons_zero, List.setIfInBounds_toArray, List.set_cons_zero, List.set_cons_succ]
        refine wpAnyH_take (i := 1) (v := .slice av 8 cv) rfl (by kernel_rfl) (by kernel_rfl) (by kernel_rfl) (fun _ _ _ h => h) (Or.inl ⟨by rfl, (by intro w' hSw; (try dsimp only at hSw); go_simp)⟩) (by assumption) ?_
        try simp only [Act.put, List.getElem_toArray, List.getElem_cons_zero, List.getElem_cons_succ, List.setIfInBounds_toArray, List.set_cons_zero, List.set_cons_succ]
        refine wpAnyH_take (i := 3) (v := .slice (some ⟨gu, 0, none⟩) nu cu) rfl (by kernel_rfl) (by kernel_rfl) (by kernel_rfl) (fun _ _ _ h => h) (Or.inl ⟨by rfl, (by intro w' hSw; (try dsimp only at hSw); go_simp)⟩) (by assumption) ?_
        try simp only [Act.put, List.getElem_toArray, List.getElem_cons_zero, List.getElem_cons_succ, List.setIfInBounds_toArray, List.set_cons_zero, List.set_cons_succ]
        clear c0 c1 hb9 hm9 HD8
        revert hHeld
        revert hb0
        revert y0
        intro y hb hHeld
        refine wpAnyH_ready (rs := [2, 5, 11]) (by kernel_rfl) (by simp) ?_
        refine AllReadyH.cons rfl (fun K hK => ?_) ?_
        obtain ⟨yn, hyn⟩ : ∃ z, y.alloc (.cells #[] 3) = z := ⟨_, rfl⟩
        obtain ⟨gA, hgn⟩ : ∃ g, y.heap.size = g := ⟨_, rfl⟩
        have hbn : Below w8.heap.size w8 yn := by rw [← hyn]; exact below_then hb (below_new _ _)
        have hAn : yn.ownsRow w8.heap.size 3 1 (.slice (some ⟨gA, 0, none⟩) 0 0) 0 [] := by rw [← hyn]; exact made_ati y gA w8.heap.size hgn (by rw [← hgn]; exact hb.size) _
        rw [if_pos (by kernel_rfl)]
        go_simp
        (try rw [hyn])
        (try rw [hgn])
        refine hK.out _ _ ((hbn.cell (p := ⟨w1.heap.size, 0, none⟩) hpl).trans (H8.out.2.2.1.cell 0)) (fun hHeldn => ?_)
        try simp only [Act.put, List.getElem_toArray, List.getElem_cons_zero, List.getElem_cons_succ, List.setIfInBounds_toArray, List.set_cons_zero, List.set_cons_succ]
        clear hK K hyn hgn hHeld hb y
        revert hAn
        revert hbn
        revert hHeldn
        revert gA
        revert yn
        refine ?ssome100
        rotate_left
        refine AllReadyH.cons rfl (fun K hK => ?_) ?_
        obtain ⟨yn, hyn⟩ : ∃ z, y.alloc (.cells #[.int .i64 5, .int .i64 7] 3) = z := ⟨_, rfl⟩
        obtain ⟨gB, hgn⟩ : ∃ g, y.heap.size = g := ⟨_, rfl⟩
        have hbn : Below w8.heap.size w8 yn := by rw [← hyn]; exact below_then hb (below_new _ _)
        have hBn : Box gB #[.int .i64 5, .int .i64 7] 3 yn := by rw [← hyn, ← hgn]; exact Box.new _ _ _
        rw [if_pos (by kernel_rfl)]
        go_simp
        (try rw [hyn])
        (try rw [hgn])
        refine hK.out _ _ ((hbn.cell (p := ⟨w1.heap.size, 0, none⟩) hpl).trans (H8.out.2.2.1.cell 0)) (fun hHeldn => ?_)
        try simp only [Act.put, List.getElem_toArray, List.getElem_cons_zero, List.getElem_cons_succ, List.setIfInBounds_toArray, List.set_cons_zero, List.set_cons_succ]
        clear hK K hyn hgn hHeld hb y
        revert hBn
        revert hbn
        revert hHeldn
        revert gB
        revert yn
        refine ?ssome010
        rotate_left
        refine AllReadyH.cons rfl (fun K hK => ?_) ?_
        obtain ⟨yn, hyn⟩ : ∃ z, y.alloc (.cells zero4E 37) = z := ⟨_, rfl⟩
        obtain ⟨gC, hgn⟩ : ∃ g, y.heap.size = g := ⟨_, rfl⟩
        have hbn : Below w8.heap.size w8 yn := by rw [← hyn]; exact below_then hb (below_new _ _)
        have hCn : Box gC zero4E 37 yn := by rw [← hyn, ← hgn]; exact Box.new _ _ _
        have hCln : w8.heap.size ≤ gC := by rw [← hgn]; exact hb.size
        rw [if_pos (by kernel_rfl)]
        go_simp
        (try rw [hyn])
        (try rw [hgn])
        refine hK.out _ _ ((hbn.cell (p := ⟨w1.heap.size, 0, none⟩) hpl).trans (H8.out.2.2.1.cell 0)) (fun hHeldn => ?_)
        try simp only [Act.put, List.getElem_toArray, List.getElem_cons_zero, List.getElem_cons_succ, List.setIfInBounds_toArray, List.set_cons_zero, List.set_cons_succ]
        clear hK K hyn hgn hHeld hb y
        revert hCln
        revert hCn
        revert hbn
        revert hHeldn
        revert gC
        revert yn
        refine ?ssome001
        rotate_left
        exact AllReadyH.nil
        -- carried out: (1, 0, 0)
        intro y gA hHeld hb hA
        refine wpAnyH_ready (rs := [4, 5, 11]) (by kernel_rfl) (by simp) ?_
        refine AllReadyH.cons rfl (fun K hK => ?_) ?_
        refine step_append_lies _ (by rfl) _ _ _ (by rfl) w8.heap.size 3 i0 (.int .i64 0) 1 8 Try.underlying28 hi hz0 hz1 hz2 rfl (by decide) _ 0 _ (by rfl) hA ⟨gu, 0, none⟩ nu _ (ivs U) (by rfl) (by simp [ivs, hnu]) (news_int (Row.of_own H8.out.2.2.2.2.2.1) hb) (ivs_oneC U) hnup (by unfold maxLen; omega) (by omega) hb.size y.heap.size rfl ?_
        intro gN cN yn hAn hgn hatn hltn
        (try simp only [Nat.zero_add, List.nil_append] at hAn ⊢)
        have hbn : Below w8.heap.size w8 yn := hb.grown hgn hb.size (fun q hq => (hA.lt q hq).1)
        have hxn : gN = gA ∨ gN = y.heap.size := by
          rcases hatn with h | h
          · exact .inl (Option.some.inj h).symm
          · exact .inr h
        refine hK.out _ _ ((hbn.cell (p := ⟨w1.heap.size, 0, none⟩) hpl).trans (H8.out.2.2.1.cell 0)) (fun hHeldn => ?_)
        try simp only [Act.put, List.getElem_toArray, List.getElem_cons_zero, List.getElem_cons_succ, List.setIfInBounds_toArray, List.set_cons_zero, List.set_cons_succ]
        clear hK K hgn hatn hltn hxn hHeld hb hA y
        revert hAn
        revert hbn
        revert hHeldn
        revert cN
        revert gN
        revert gA
        revert yn
        refine ?ssome200
        rotate_left
        refine AllReadyH.cons rfl (fun K hK => ?_) ?_
        obtain ⟨yn, hyn⟩ : ∃ z, y.alloc (.cells #[.int .i64 5, .int .i64 7] 3) = z := ⟨_, rfl⟩
        obtain ⟨gB, hgn⟩ : ∃ g, y.heap.size = g := ⟨_, rfl⟩
        have hbn : Below w8.heap.size w8 yn := by rw [← hyn]; exact below_then hb (below_new _ _)
        have hAn := hA.alloc (.cells #[.int .i64 5, .int .i64 7] 3)
        rw [hyn] at hAn
        have hBn : Box gB #[.int .i64 5, .int .i64 7] 3 yn := by rw [← hyn, ← hgn]; exact Box.new _ _ _
        have hBAn : gB ≠ gA := by have := (hA.lt gA rfl).2; omega
        rw [if_pos (by kernel_rfl)]
        go_simp
        (try rw [hyn])
        (try rw [hgn])
        refine hK.out _ _ ((hbn.cell (p := ⟨w1.heap.size, 0, none⟩) hpl).trans (H8.out.2.2.1.cell 0)) (fun hHeldn => ?_)
        try simp only [Act.put, List.getElem_toArray, List.getElem_cons_zero, List.getElem_cons_succ, List.setIfInBounds_toArray, List.set_cons_zero, List.set_cons_succ]
        clear hK K hyn hgn hHeld hb hA y
        revert hBAn
        revert hBn
        revert hAn
        revert hbn
        revert hHeldn
        revert gB
        revert gA
        revert yn
        refine ?ssome110
        rotate_left
        refine AllReadyH.cons rfl (fun K hK => ?_) ?_
        obtain ⟨yn, hyn⟩ : ∃ z, y.alloc (.cells zero4E 37) = z := ⟨_, rfl⟩
        obtain ⟨gC, hgn⟩ : ∃ g, y.heap.size = g := ⟨_, rfl⟩
        have hbn : Below w8.heap.size w8 yn := by rw [← hyn]; exact below_then hb (below_new _ _)
        have hAn := hA.alloc (.cells zero4E 37)
        rw [hyn] at hAn
        have hCn : Box gC zero4E 37 yn := by rw [← hyn, ← hgn]; exact Box.new _ _ _
        have hCln : w8.heap.size ≤ gC := by rw [← hgn]; exact hb.size
        have hCAn : gC ≠ gA := by have := (hA.lt gA rfl).2; omega
        rw [if_pos (by kernel_rfl)]
        go_simp
        (try rw [hyn])
        (try rw [hgn])
        refine hK.out _ _ ((hbn.cell (p := ⟨w1.heap.size, 0, none⟩) hpl).trans (H8.out.2.2.1.cell 0)) (fun hHeldn => ?_)
        try simp only [Act.put, List.getElem_toArray, List.getElem_cons_zero, List.getElem_cons_succ, List.setIfInBounds_toArray, List.set_cons_zero, List.set_cons_succ]
        clear hK K hyn hgn hHeld hb hA y
        revert hCAn
        revert hCln
        revert hCn
        revert hAn
        revert hbn
        revert hHeldn
        revert gC
        revert gA
        revert yn
        refine ?ssome101
        rotate_left
        exact AllReadyH.nil
        -- carried out: (0, 1, 0)
        intro y gB hHeld hb hB
        refine wpAnyH_ready (rs := [2, 11]) (by kernel_rfl) (by simp) ?_
        refine AllReadyH.cons rfl (fun K hK => ?_) ?_
        obtain ⟨yn, hyn⟩ : ∃ z, y.alloc (.cells #[] 3) = z := ⟨_, rfl⟩
        obtain ⟨gA, hgn⟩ : ∃ g, y.heap.size = g := ⟨_, rfl⟩
        have hbn : Below w8.heap.size w8 yn := by rw [← hyn]; exact below_then hb (below_new _ _)
        have hBn := hB.alloc (.cells #[] 3)
        rw [hyn] at hBn
        have hAn : yn.ownsRow w8.heap.size 3 1 (.slice (some ⟨gA, 0, none⟩) 0 0) 0 [] := by rw [← hyn]; exact made_ati y gA w8.heap.size hgn (by rw [← hgn]; exact hb.size) _
        have hBAn : gB ≠ gA := by have := hB.lt; omega
        rw [if_pos (by kernel_rfl)]
        go_simp
        (try rw [hyn])
        (try rw [hgn])
        refine hK.out _ _ ((hbn.cell (p := ⟨w1.heap.size, 0, none⟩) hpl).trans (H8.out.2.2.1.cell 0)) (fun hHeldn => ?_)
        try simp only [Act.put, List.getElem_toArray, List.getElem_cons_zero, List.getElem_cons_succ, List.setIfInBounds_toArray, List.set_cons_zero, List.set_cons_succ]
        clear hK K hyn hgn hHeld hb hB y
        revert hBAn
        revert hBn
        revert hAn
        revert hbn
        revert hHeldn
        revert gB
        revert gA
        revert yn
        refine ?ssome110
        refine AllReadyH.cons rfl (fun K hK => ?_) ?_
        obtain ⟨yn, hyn⟩ : ∃ z, y.alloc (.cells zero4E 37) = z := ⟨_, rfl⟩
        obtain ⟨gC, hgn⟩ : ∃ g, y.heap.size = g := ⟨_, rfl⟩
        have hbn : Below w8.heap.size w8 yn := by rw [← hyn]; exact below_then hb (below_new _ _)
        have hBn := hB.alloc (.cells zero4E 37)
        rw [hyn] at hBn
        have hCn : Box gC zero4E 37 yn := by rw [← hyn, ← hgn]; exact Box.new _ _ _
        have hCln : w8.heap.size ≤ gC := by rw [← hgn]; exact hb.size
        rw [if_pos (by kernel_rfl)]
        go_simp
        (try rw [hyn])
        (try rw [hgn])
        refine hK.out _ _ ((hbn.cell (p := ⟨w1.heap.size, 0, none⟩) hpl).trans (H8.out.2.2.1.cell 0)) (fun hHeldn => ?_)
        try simp only [Act.put, List.getElem_toArray, List.getElem_cons_zero, List.getElem_cons_succ, List.setIfInBounds_toArray, List.set_cons_zero, List.set_cons_succ]
        clear hK K hyn hgn hHeld hb hB y
        revert hCln
        revert hCn
        revert hBn
        revert hbn
        revert hHeldn
        revert gC
        revert gB
        revert yn
        refine ?ssome011
        rotate_left
        exact AllReadyH.nil
        -- carried out: (0, 0, 1)
        intro y gC hHeld hb hC hCl
        refine wpAnyH_ready (rs := [2, 5]) (by kernel_rfl) (by simp) ?_
        refine AllReadyH.cons rfl (fun K hK => ?_) ?_
        obtain ⟨yn, hyn⟩ : ∃ z, y.alloc (.cells #[] 3) = z := ⟨_, rfl⟩
        obtain ⟨gA, hgn⟩ : ∃ g, y.heap.size = g := ⟨_, rfl⟩
        have hbn : Below w8.heap.size w8 yn := by rw [← hyn]; exact below_then hb (below_new _ _)
        have hCn := hC.alloc (.cells #[] 3)
        rw [hyn] at hCn
        have hAn : yn.ownsRow w8.heap.size 3 1 (.slice (some ⟨gA, 0, none⟩) 0 0) 0 [] := by rw [← hyn]; exact made_ati y gA w8.heap.size hgn (by rw [← hgn]; exact hb.size) _
        have hCAn : gC ≠ gA := by have := hC.lt; omega
        rw [if_pos (by kernel_rfl)]
        go_simp
        (try rw [hyn])
        (try rw [hgn])
        refine hK.out _ _ ((hbn.cell (p := ⟨w1.heap.size, 0, none⟩) hpl).trans (H8.out.2.2.1.cell 0)) (fun hHeldn => ?_)
        try simp only [Act.put, List.getElem_toArray, List.getElem_cons_zero, List.getElem_cons_succ, List.setIfInBounds_toArray, List.set_cons_zero, List.set_cons_succ]
        clear hK K hyn hgn hHeld hb hC y
        revert hCAn
        revert hCl
        revert hCn
        revert hAn
        revert hbn
        revert hHeldn
        revert gC
        revert gA
        revert yn
        refine ?ssome101
        refine AllReadyH.cons rfl (fun K hK => ?_) ?_
        obtain ⟨yn, hyn⟩ : ∃ z, y.alloc (.cells #[.int .i64 5, .int .i64 7] 3) = z := ⟨_, rfl⟩
        obtain ⟨gB, hgn⟩ : ∃ g, y.heap.size = g := ⟨_, rfl⟩
        have hbn : Below w8.heap.size w8 yn := by rw [← hyn]; exact below_then hb (below_new _ _)
        have hCn := hC.alloc (.cells #[.int .i64 5, .int .i64 7] 3)
        rw [hyn] at hCn
        have hBn : Box gB #[.int .i64 5, .int .i64 7] 3 yn := by rw [← hyn, ← hgn]; exact Box.new _ _ _
        rw [if_pos (by kernel_rfl)]
        go_simp
        (try rw [hyn])
        (try rw [hgn])
        refine hK.out _ _ ((hbn.cell (p := ⟨w1.heap.size, 0, none⟩) hpl).trans (H8.out.2.2.1.cell 0)) (fun hHeldn => ?_)
        try simp only [Act.put, List.getElem_toArray, List.getElem_cons_zero, List.getElem_cons_succ, List.setIfInBounds_toArray, List.set_cons_zero, List.set_cons_succ]
        clear hK K hyn hgn hHeld hb hC y
        revert hCl
        revert hCn
        revert hBn
        revert hbn
        revert hHeldn
        revert gC
        revert gB
        revert yn
        refine ?ssome011
        exact AllReadyH.nil
        -- carried out: (2, 0, 0)
        intro y g0 gA cA hHeld hb hA
        refine wpAnyH_ready (rs := [5, 11]) (by kernel_rfl) (by simp) ?_
        refine AllReadyH.cons rfl (fun K hK => ?_) ?_
        obtain ⟨yn, hyn⟩ : ∃ z, y.alloc (.cells #[.int .i64 5, .int .i64 7] 3) = z := ⟨_, rfl⟩
        obtain ⟨gB, hgn⟩ : ∃ g, y.heap.size = g := ⟨_, rfl⟩
        have hbn : Below w8.heap.size w8 yn := by rw [← hyn]; exact below_then hb (below_new _ _)
        have hAn := hA.alloc (.cells #[.int .i64 5, .int .i64 7] 3)
        rw [hyn] at hAn
        have hBn : Box gB #[.int .i64 5, .int .i64 7] 3 yn := by rw [← hyn, ← hgn]; exact Box.new _ _ _
        have hBAn : gB ≠ gA := by have := (hA.lt gA rfl).2; omega
        rw [if_pos (by kernel_rfl)]
        go_simp
        (try rw [hyn])
        (try rw [hgn])
        refine hK.out _ _ ((hbn.cell (p := ⟨w1.heap.size, 0, none⟩) hpl).trans (H8.out.2.2.1.cell 0)) (fun hHeldn => ?_)
        try simp only [Act.put, List.getElem_toArray, List.getElem_cons_zero, List.getElem_cons_succ, List.setIfInBounds_toArray, List.set_cons_zero, List.set_cons_succ]
        clear hK K hyn hgn hHeld hb hA y
        revert hBAn
        revert hBn
        revert hAn
        revert hbn
        revert hHeldn
        revert gB
        revert cA
        revert gA
        revert g0
        revert yn
        refine ?ssome210
        rotate_left
        refine AllReadyH.cons rfl (fun K hK => ?_) ?_
        obtain ⟨yn, hyn⟩ : ∃ z, y.alloc (.cells zero4E 37) = z := ⟨_, rfl⟩
        obtain ⟨gC, hgn⟩ : ∃ g, y.heap.size = g := ⟨_, rfl⟩
        have hbn : Below w8.heap.size w8 yn := by rw [← hyn]; exact below_then hb (below_new _ _)
        have hAn := hA.alloc (.cells zero4E 37)
        rw [hyn] at hAn
        have hCn : Box gC zero4E 37 yn := by rw [← hyn, ← hgn]; exact Box.new _ _ _
        have hCln : w8.heap.size ≤ gC := by rw [← hgn]; exact hb.size
        have hCAn : gC ≠ gA := by have := (hA.lt gA rfl).2; omega
        rw [if_pos (by kernel_rfl)]
        go_simp
        (try rw [hyn])
        (try rw [hgn])
        refine hK.out _ _ ((hbn.cell (p := ⟨w1.heap.size, 0, none⟩) hpl).trans (H8.out.2.2.1.cell 0)) (fun hHeldn => ?_)
        try simp only [Act.put, List.getElem_toArray, List.getElem_cons_zero, List.getElem_cons_succ, List.setIfInBounds_toArray, List.set_cons_zero, List.set_cons_succ]
        clear hK K hyn hgn hHeld hb hA y
        revert hCAn
        revert hCln
        revert hCn
        revert hAn
        revert hbn
        revert hHeldn
        revert gC
        revert cA
        revert gA
        revert g0
        revert yn
        refine ?ssome201
        rotate_left
        exact AllReadyH.nil
        -- carried out: (1, 1, 0)
        intro y gA gB hHeld hb hA hB hBA
        refine wpAnyH_ready (rs := [4, 11]) (by kernel_rfl) (by simp) ?_
        refine AllReadyH.cons rfl (fun K hK => ?_) ?_
        refine step_append_lies _ (by rfl) _ _ _ (by rfl) w8.heap.size 3 i0 (.int .i64 0) 1 8 Try.underlying28 hi hz0 hz1 hz2 rfl (by decide) _ 0 _ (by rfl) hA ⟨gu, 0, none⟩ nu _ (ivs U) (by rfl) (by simp [ivs, hnu]) (news_int (Row.of_own H8.out.2.2.2.2.2.1) hb) (ivs_oneC U) hnup (by unfold maxLen; omega) (by omega) hb.size y.heap.size rfl ?_
        intro gN cN yn hAn hgn hatn hltn
        (try simp only [Nat.zero_add, List.nil_append] at hAn ⊢)
        have hbn : Below w8.heap.size w8 yn := hb.grown hgn hb.size (fun q hq => (hA.lt q hq).1)
        have hxn : gN = gA ∨ gN = y.heap.size := by
          rcases hatn with h | h
          · exact .inl (Option.some.inj h).symm
          · exact .inr h
        have hBn := hB.grown hgn (fun e => by have h9 : gB = gA := Option.some.inj e; omega)
        have hBAn : gB ≠ gN := by have := hB.lt; omega
        refine hK.out _ _ ((hbn.cell (p := ⟨w1.heap.size, 0, none⟩) hpl).trans (H8.out.2.2.1.cell 0)) (fun hHeldn => ?_)
        try simp only [Act.put, List.getElem_toArray, List.getElem_cons_zero, List.getElem_cons_succ, List.setIfInBounds_toArray, List.set_cons_zero, List.set_cons_succ]
        clear hK K hgn hatn hltn hxn hHeld hb hA hB hBA y
        revert hBAn
        revert hBn
        revert hAn
        revert hbn
        revert hHeldn
        revert gB
        revert cN
        revert gN
        revert gA
        revert yn
        refine ?ssome210
        refine AllReadyH.cons rfl (fun K hK => ?_) ?_
        obtain ⟨yn, hyn⟩ : ∃ z, y.alloc (.cells zero4E 37) = z := ⟨_, rfl⟩
        obtain ⟨gC, hgn⟩ : ∃ g, y.heap.size = g := ⟨_, rfl⟩
        have hbn : Below w8.heap.size w8 yn := by rw [← hyn]; exact below_then hb (below_new _ _)
        have hBn := hB.alloc (.cells zero4E 37)
        rw [hyn] at hBn
        have hAn := hA.alloc (.cells zero4E 37)
        rw [hyn] at hAn
        have hCn : Box gC zero4E 37 yn := by rw [← hyn, ← hgn]; exact Box.new _ _ _
        have hCln : w8.heap.size ≤ gC := by rw [← hgn]; exact hb.size
        have hCAn : gC ≠ gA := by have := (hA.lt gA rfl).2; omega
        rw [if_pos (by kernel_rfl)]
        go_simp
        (try rw [hyn])
        (try rw [hgn])
        refine hK.out _ _ ((hbn.cell (p := ⟨w1.heap.size, 0, none⟩) hpl).trans (H8.out.2.2.1.cell 0)) (fun hHeldn => ?_)
        try simp only [Act.put, List.getElem_toArray, List.getElem_cons_zero, List.getElem_cons_succ, List.setIfInBounds_toArray, List.set_cons_zero, List.set_cons_succ]
        clear hK K hyn hgn hHeld hb hA hB y
        revert hCAn
        revert hBA
        revert hCln
        revert hCn
        revert hBn
        revert hAn
        revert hbn
        revert hHeldn
        revert gC
        revert gB
        revert gA
        revert yn
        refine ?ssome111
        rotate_left
        exact AllReadyH.nil
        -- carried out: (1, 0, 1)
        intro y gA gC hHeld hb hA hC hCl hCA
        refine wpAnyH_ready (rs := [4, 5]) (by kernel_rfl) (by simp) ?_
        refine AllReadyH.cons rfl (fun K hK => ?_) ?_
        refine step_append_lies _ (by rfl) _ _ _ (by rfl) w8.heap.size 3 i0 (.int .i64 0) 1 8 Try.underlying28 hi hz0 hz1 hz2 rfl (by decide) _ 0 _ (by rfl) hA ⟨gu, 0, none⟩ nu _ (ivs U) (by rfl) (by simp [ivs, hnu]) (news_int (Row.of_own H8.out.2.2.2.2.2.1) hb) (ivs_oneC U) hnup (by unfold maxLen; omega) (by omega) hb.size y.heap.size rfl ?_
        intro gN cN yn hAn hgn hatn hltn
        (try simp only [Nat.zero_add, List.nil_append] at hAn ⊢)
        have hbn : Below w8.heap.size w8 yn := hb.grown hgn hb.size (fun q hq => (hA.lt q hq).1)
        have hxn : gN = gA ∨ gN = y.heap.size := by
          rcases hatn with h | h
          · exact .inl (Option.some.inj h).symm
          · exact .inr h
        have hCn := hC.grown hgn (fun e => by have h9 : gC = gA := Option.some.inj e; omega)
        have hCAn : gC ≠ gN := by have := hC.lt; omega
        refine hK.out _ _ ((hbn.cell (p := ⟨w1.heap.size, 0, none⟩) hpl).trans (H8.out.2.2.1.cell 0)) (fun hHeldn => ?_)
        try simp only [Act.put, List.getElem_toArray, List.getElem_cons_zero, List.getElem_cons_succ, List.setIfInBounds_toArray, List.set_cons_zero, List.set_cons_succ]
        clear hK K hgn hatn hltn hxn hHeld hb hA hC hCA y
        revert hCAn
        revert hCl
        revert hCn
        revert hAn
        revert hbn
        revert hHeldn
        revert gC
        revert cN
        revert gN
        revert gA
        revert yn
        refine ?ssome201
        refine AllReadyH.cons rfl (fun K hK => ?_) ?_
        obtain ⟨yn, hyn⟩ : ∃ z, y.alloc (.cells #[.int .i64 5, .int .i64 7] 3) = z := ⟨_, rfl⟩
        obtain ⟨gB, hgn⟩ : ∃ g, y.heap.size = g := ⟨_, rfl⟩
        have hbn : Below w8.heap.size w8 yn := by rw [← hyn]; exact below_then hb (below_new _ _)
        have hCn := hC.alloc (.cells #[.int .i64 5, .int .i64 7] 3)
        rw [hyn] at hCn
        have hAn := hA.alloc (.cells #[.int .i64 5, .int .i64 7] 3)
        rw [hyn] at hAn
        have hBn : Box gB #[.int .i64 5, .int .i64 7] 3 yn := by rw [← hyn, ← hgn]; exact Box.new _ _ _
        have hBAn : gB ≠ gA := by have := (hA.lt gA rfl).2; omega
        rw [if_pos (by kernel_rfl)]
        go_simp
        (try rw [hyn])
        (try rw [hgn])
        refine hK.out _ _ ((hbn.cell (p := ⟨w1.heap.size, 0, none⟩) hpl).trans (H8.out.2.2.1.cell 0)) (fun hHeldn => ?_)
        try simp only [Act.put, List.getElem_toArray, List.getElem_cons_zero, List.getElem_cons_succ, List.setIfInBounds_toArray, List.set_cons_zero, List.set_cons_succ]
        clear hK K hyn hgn hHeld hb hA hC y
        revert hCA
        revert hBAn
        revert hCl
        revert hCn
        revert hBn
        revert hAn
        revert hbn
        revert hHeldn
        revert gC
        revert gB
        revert gA
        revert yn
        refine ?ssome111
        exact AllReadyH.nil
        -- carried out: (0, 1, 1)
        intro y gB gC hHeld hb hB hC hCl
        refine wpAnyH_ready (rs := [2]) (by kernel_rfl) (by simp) ?_
        refine AllReadyH.cons rfl (fun K hK => ?_) ?_
        obtain ⟨yn, hyn⟩ : ∃ z, y.alloc (.cells #[] 3) = z := ⟨_, rfl⟩
        obtain ⟨gA, hgn⟩ : ∃ g, y.heap.size = g := ⟨_, rfl⟩
        have hbn : Below w8.heap.size w8 yn := by rw [← hyn]; exact below_then hb (below_new _ _)
        have hBn := hB.alloc (.cells #[] 3)
        rw [hyn] at hBn
        have hCn := hC.alloc (.cells #[] 3)
        rw [hyn] at hCn
        have hAn : yn.ownsRow w8.heap.size 3 1 (.slice (some ⟨gA, 0, none⟩) 0 0) 0 [] := by rw [← hyn]; exact made_ati y gA w8.heap.size hgn (by rw [← hgn]; exact hb.size) _
        have hBAn : gB ≠ gA := by have := hB.lt; omega
        have hCAn : gC ≠ gA := by have := hC.lt; omega
        rw [if_pos (by kernel_rfl)]
        go_simp
        (try rw [hyn])
        (try rw [hgn])
        refine hK.out _ _ ((hbn.cell (p := ⟨w1.heap.size, 0, none⟩) hpl).trans (H8.out.2.2.1.cell 0)) (fun hHeldn => ?_)
        try simp only [Act.put, List.getElem_toArray, List.getElem_cons_zero, List.getElem_cons_succ, List.setIfInBounds_toArray, List.set_cons_zero, List.set_cons_succ]
        clear hK K hyn hgn hHeld hb hB hC y
        revert hCAn
        revert hBAn
        revert hCl
        revert hCn
        revert hBn
        revert hAn
        revert hbn
        revert hHeldn
        revert gC
        revert gB
        revert gA
        revert yn
        refine ?ssome111
        exact AllReadyH.nil
        -- carried out: (2, 1, 0)
        intro y g0 gA cA gB hHeld hb hA hB hBA
        refine wpAnyH_ready (rs := [6, 11]) (by kernel_rfl) (by simp) ?_
        refine AllReadyH.cons rfl (fun K hK => ?_) ?_
        refine step_append_lies _ (by rfl) _ _ _ (by rfl) w8.heap.size 3 i0 (.int .i64 0) 1 8 Try.underlying28 hi hz0 hz1 hz2 rfl (by decide) _ nu _ (by rfl) hA ⟨gB, 0, none⟩ 2 2 [.int .i64 5, .int .i64 7] (by rfl) (by rfl) (World.news_of_block (cs := #[.int .i64 5, .int .i64 7]) (t := 3) (fr := (0, 0)) hB) (by simp [Value.oneCell']) (by omega) (by unfold maxLen; omega) (by omega) hb.size y.heap.size rfl ?_
        intro gN cN yn hAn hgn hatn hltn
        (try simp only [Nat.zero_add, List.nil_append] at hAn ⊢)
        have hbn : Below w8.heap.size w8 yn := hb.grown hgn hb.size (fun q hq => (hA.lt q hq).1)
        have hxn : gN = gA ∨ gN = y.heap.size := by
          rcases hatn with h | h
          · exact .inl (Option.some.inj h).symm
          · exact .inr h
        refine hK.out _ _ ((hbn.cell (p := ⟨w1.heap.size, 0, none⟩) hpl).trans (H8.out.2.2.1.cell 0)) (fun hHeldn => ?_)
        try simp only [Act.put, List.getElem_toArray, List.getElem_cons_zero, List.getElem_cons_succ, List.setIfInBounds_toArray, List.set_cons_zero, List.set_cons_succ]
        clear hK K hgn hatn hltn hxn hHeld hb hA hB hBA y
        revert hAn
        revert hbn
        revert hHeldn
        revert gB
        revert cN
        revert gN
        revert cA
        revert gA
        revert g0
        revert yn
        refine ?ssome310
        rotate_left
        refine AllReadyH.cons rfl (fun K hK => ?_) ?_
        obtain ⟨yn, hyn⟩ : ∃ z, y.alloc (.cells zero4E 37) = z := ⟨_, rfl⟩
        obtain ⟨gC, hgn⟩ : ∃ g, y.heap.size = g := ⟨_, rfl⟩
        have hbn : Below w8.heap.size w8 yn := by rw [← hyn]; exact below_then hb (below_new _ _)
        have hBn := hB.alloc (.cells zero4E 37)
        rw [hyn] at hBn
        have hAn := hA.alloc (.cells zero4E 37)
        rw [hyn] at hAn
        have hCn : Box gC zero4E 37 yn := by rw [← hyn, ← hgn]; exact Box.new _ _ _
        have hCln : w8.heap.size ≤ gC := by rw [← hgn]; exact hb.size
        have hCAn : gC ≠ gA := by have := (hA.lt gA rfl).2; omega
        rw [if_pos (by kernel_rfl)]
        go_simp
        (try rw [hyn])
        (try rw [hgn])
        refine hK.out _ _ ((hbn.cell (p := ⟨w1.heap.size, 0, none⟩) hpl).trans (H8.out.2.2.1.cell 0)) (fun hHeldn => ?_)
        try simp only [Act.put, List.getElem_toArray, List.getElem_cons_zero, List.getElem_cons_succ, List.setIfInBounds_toArray, List.set_cons_zero, List.set_cons_succ]
        clear hK K hyn hgn hHeld hb hA hB y
        revert hCAn
        revert hBA
        revert hCln
        revert hCn
        revert hBn
        revert hAn
        revert hbn
        revert hHeldn
        revert gC
        revert gB
        revert cA
        revert gA
        revert g0
        revert yn
        refine ?ssome211
        rotate_left
        exact AllReadyH.nil
        -- carried out: (2, 0, 1)
        intro y g0 gA cA gC hHeld hb hA hC hCl hCA
        refine wpAnyH_ready (rs := [5]) (by kernel_rfl) (by simp) ?_
        refine AllReadyH.cons rfl (fun K hK => ?_) ?_
        obtain ⟨yn, hyn⟩ : ∃ z, y.alloc (.cells #[.int .i64 5, .int .i64 7] 3) = z := ⟨_, rfl⟩
        obtain ⟨gB, hgn⟩ : ∃ g, y.heap.size = g := ⟨_, rfl⟩
        have hbn : Below w8.heap.size w8 yn := by rw [← hyn]; exact below_then hb (below_new _ _)
        have hCn := hC.alloc (.cells #[.int .i64 5, .int .i64 7] 3)
        rw [hyn] at hCn
        have hAn := hA.alloc (.cells #[.int .i64 5, .int .i64 7] 3)
        rw [hyn] at hAn
        have hBn : Box gB #[.int .i64 5, .int .i64 7] 3 yn := by rw [← hyn, ← hgn]; exact Box.new _ _ _
        have hBAn : gB ≠ gA := by have := (hA.lt gA rfl).2; omega
        rw [if_pos (by kernel_rfl)]
        go_simp
        (try rw [hyn])
        (try rw [hgn])
        refine hK.out _ _ ((hbn.cell (p := ⟨w1.heap.size, 0, none⟩) hpl).trans (H8.out.2.2.1.cell 0)) (fun hHeldn => ?_)
        try simp only [Act.put, List.getElem_toArray, List.getElem_cons_zero, List.getElem_cons_succ, List.setIfInBounds_toArray, List.set_cons_zero, List.set_cons_succ]
        clear hK K hyn hgn hHeld hb hA hC y
        revert hCA
        revert hBAn
        revert hCl
        revert hCn
        revert hBn
        revert hAn
        revert hbn
        revert hHeldn
        revert gC
        revert gB
        revert cA
        revert gA
        revert g0
        revert yn
        refine ?ssome211
        exact AllReadyH.nil
        -- carried out: (1, 1, 1)
        intro y gA gB gC hHeld hb hA hB hC hCl hBA hCA
        refine wpAnyH_ready (rs := [4]) (by kernel_rfl) (by simp) ?_
        refine AllReadyH.cons rfl (fun K hK => ?_) ?_
        refine step_append_lies _ (by rfl) _ _ _ (by rfl) w8.heap.size 3 i0 (.int .i64 0) 1 8 Try.underlying28 hi hz0 hz1 hz2 rfl (by decide) _ 0 _ (by rfl) hA ⟨gu, 0, none⟩ nu _ (ivs U) (by rfl) (by simp [ivs, hnu]) (news_int (Row.of_own H8.out.2.2.2.2.2.1) hb) (ivs_oneC U) hnup (by unfold maxLen; omega) (by omega) hb.size y.heap.size rfl ?_
        intro gN cN yn hAn hgn hatn hltn
        (try simp only [Nat.zero_add, List.nil_append] at hAn ⊢)
        have hbn : Below w8.heap.size w8 yn := hb.grown hgn hb.size (fun q hq => (hA.lt q hq).1)
        have hxn : gN = gA ∨ gN = y.heap.size := by
          rcases hatn with h | h
          · exact .inl (Option.some.inj h).symm
          · exact .inr h
        have hBn := hB.grown hgn (fun e => by have h9 : gB = gA := Option.some.inj e; omega)
        have hCn := hC.grown hgn (fun e => by have h9 : gC = gA := Option.some.inj e; omega)
        have hBAn : gB ≠ gN := by have := hB.lt; omega
        have hCAn : gC ≠ gN := by have := hC.lt; omega
        refine hK.out _ _ ((hbn.cell (p := ⟨w1.heap.size, 0, none⟩) hpl).trans (H8.out.2.2.1.cell 0)) (fun hHeldn => ?_)
        try simp only [Act.put, List.getElem_toArray, List.getElem_cons_zero, List.getElem_cons_succ, List.setIfInBounds_toArray, List.set_cons_zero, List.set_cons_succ]
        clear hK K hgn hatn hltn hxn hHeld hb hA hB hC hBA hCA y
        revert hCAn
        revert hBAn
        revert hCl
        revert hCn
        revert hBn
        revert hAn
        revert hbn
        revert hHeldn
        revert gC
        revert gB
        revert cN
        revert gN
        revert gA
        revert yn
        refine ?ssome211
        exact AllReadyH.nil
        -- carried out: (3, 1, 0)
        intro y g0 g1 c1 gA cA gB hHeld hb hA
        refine wpAnyH_ready (rs := [7, 11]) (by kernel_rfl) (by simp) ?_
        refine AllReadyH.cons rfl (fun K hK => ?_) ?_
        rw [if_pos (by kernel_rfl)]
        go_simp
        go_at_call 12
        refine (impl_taskeffect (some ⟨gp, 0, none⟩) n c P HSZ.out hnc _ (H8.out.2.2.2.1.below hb) av 8 cv V (by decide) hcv (Row.of_own (H8.out.2.1.kept (grown_below hb none) (by cases av <;> simp [Value.ownBlock]))) (some ⟨gA, 0, none⟩) _ cA (U ++ [5, 7]) (by omega) (own_le hA) (Row.of_own (L := (U ++ [5, 7])) (by simpa [ivs] using hA)) 0 true E2 HEY.out).mono ?_
        rintro e yn ⟨b1, o1, d1, b2, o2, d2, rfl, hmn, hbc⟩
        have hbn : Below w8.heap.size w8 yn := below_then hb hbc
        have ho1n : E2.V.length = o1 := own_len hmn.1
        have ho2n : E2.S.length = o2 := own_len hmn.2.1
        have hR1n := hmn.1.mono hb.size
        have hR2n := hmn.2.1.mono hb.size
        refine hK.out _ _ ((hbn.cell (p := ⟨w1.heap.size, 0, none⟩) hpl).trans (H8.out.2.2.1.cell 0)) (fun hHeldn => ?_)
        try simp only [Act.put, List.getElem_toArray, List.getElem_cons_zero, List.getElem_cons_succ, List.setIfInBounds_toArray, List.set_cons_zero, List.set_cons_succ]
        refine wpAnyH_take (i := 8) (v := .tuple #[effV b1 o1 d1 b2 o2 d2 E2, .bool true]) rfl (by kernel_rfl) (by kernel_rfl) (by kernel_rfl) (fun _ _ _ h => h) (Or.inl ⟨by rfl, (by intro w' hSw; (try dsimp only at hSw); go_simp)⟩) (by assumption) ?_
        try simp only [Act.put, List.getElem_toArray, List.getElem_cons_zero, List.getElem_cons_succ, List.setIfInBounds_toArray, List.set_cons_zero, List.set_cons_succ]
        refine wpAnyH_take (i := 9) (v := effV b1 o1 d1 b2 o2 d2 E2) rfl (by kernel_rfl) (by kernel_rfl) (by kernel_rfl) (fun _ _ _ h => h) (Or.inl ⟨by rfl, (by intro w' hSw; (try dsimp only at hSw); go_simp)⟩) (by assumption) ?_
        try simp only [Act.put, List.getElem_toArray, List.getElem_cons_zero, List.getElem_cons_succ, List.setIfInBounds_toArray, List.set_cons_zero, List.set_cons_succ]
        refine wpAnyH_take (i := 10) (v := .bool true) rfl (by kernel_rfl) (by kernel_rfl) (by kernel_rfl) (fun _ _ _ h => h) (Or.inl ⟨by rfl, (by intro w' hSw; (try dsimp only at hSw); go_simp)⟩) (by assumption) ?_
        try simp only [Act.put, List.getElem_toArray, List.getElem_cons_zero, List.getElem_cons_succ, List.setIfInBounds_toArray, List.set_cons_zero, List.set_cons_succ]
        clear hK K hmn hbc hHeld hb hA y
        revert hR2n
        revert hR1n
        revert ho2n
        revert ho1n
        revert hbn
        revert hHeldn
        revert d2
        revert o2
        revert b2
        revert d1
        revert o1
        revert b1
        revert gB
        revert cA
        revert gA
        revert c1
        revert g1
        revert g0
        revert yn
        refine ?ssome410
        rotate_left
        refine AllReadyH.cons rfl (fun K hK => ?_) ?_
        obtain ⟨yn, hyn⟩ : ∃ z, y.alloc (.cells zero4E 37) = z := ⟨_, rfl⟩
        obtain ⟨gC, hgn⟩ : ∃ g, y.heap.size = g := ⟨_, rfl⟩
        have hbn : Below w8.heap.size w8 yn := by rw [← hyn]; exact below_then hb (below_new _ _)
        have hAn := hA.alloc (.cells zero4E 37)
        rw [hyn] at hAn
        have hCn : Box gC zero4E 37 yn := by rw [← hyn, ← hgn]; exact Box.new _ _ _
        have hCln : w8.heap.size ≤ gC := by rw [← hgn]; exact hb.size
        rw [if_pos (by kernel_rfl)]
        go_simp
        (try rw [hyn])
        (try rw [hgn])
        refine hK.out _ _ ((hbn.cell (p := ⟨w1.heap.size, 0, none⟩) hpl).trans (H8.out.2.2.1.cell 0)) (fun hHeldn => ?_)
        try simp only [Act.put, List.getElem_toArray, List.getElem_cons_zero, List.getElem_cons_succ, List.setIfInBounds_toArray, List.set_cons_zero, List.set_cons_succ]
        clear hK K hyn hgn hHeld hb hA y
        revert hCln
        revert hCn
        revert hAn
        revert hbn
        revert hHeldn
        revert gC
        revert gB
        revert cA
        revert gA
        revert c1
        revert g1
        revert g0
        revert yn
        refine ?ssome311
        rotate_left
        exact AllReadyH.nil
        -- carried out: (2, 1, 1)
        intro y g0 gA cA gB gC hHeld hb hA hB hC hCl hBA hCA
        refine wpAnyH_ready (rs := [6]) (by kernel_rfl) (by simp) ?_
        refine AllReadyH.cons rfl (fun K hK => ?_) ?_
        refine step_append_lies _ (by rfl) _ _ _ (by rfl) w8.heap.size 3 i0 (.int .i64 0) 1 8 Try.underlying28 hi hz0 hz1 hz2 rfl (by decide) _ nu _ (by rfl) hA ⟨gB, 0, none⟩ 2 2 [.int .i64 5, .int .i64 7] (by rfl) (by rfl) (World.news_of_block (cs := #[.int .i64 5, .int .i64 7]) (t := 3) (fr := (0, 0)) hB) (by simp [Value.oneCell']) (by omega) (by unfold maxLen; omega) (by omega) hb.size y.heap.size rfl ?_
        intro gN cN yn hAn hgn hatn hltn
        (try simp only [Nat.zero_add, List.nil_append] at hAn ⊢)
        have hbn : Below w8.heap.size w8 yn := hb.grown hgn hb.size (fun q hq => (hA.lt q hq).1)
        have hxn : gN = gA ∨ gN = y.heap.size := by
          rcases hatn with h | h
          · exact .inl (Option.some.inj h).symm
          · exact .inr h
        have hCn := hC.grown hgn (fun e => by have h9 : gC = gA := Option.some.inj e; omega)
        refine hK.out _ _ ((hbn.cell (p := ⟨w1.heap.size, 0, none⟩) hpl).trans (H8.out.2.2.1.cell 0)) (fun hHeldn => ?_)
        try simp only [Act.put, List.getElem_toArray, List.getElem_cons_zero, List.getElem_cons_succ, List.setIfInBounds_toArray, List.set_cons_zero, List.set_cons_succ]
        clear hK K hgn hatn hltn hxn hHeld hb hA hB hC hBA hCA y
        revert hCl
        revert hCn
        revert hAn
        revert hbn
        revert hHeldn
        revert gC
        revert gB
        revert cN
        revert gN
        revert cA
        revert gA
        revert g0
        revert yn
        refine ?ssome311
        exact AllReadyH.nil
        -- carried out: (4, 1, 0)
        intro y g0 g1 c1 gA cA gB b1 o1 d1 b2 o2 d2 hHeld hb ho1 ho2 hR1 hR2
        refine wpAnyH_ready (rs := [11]) (by kernel_rfl) (by simp) ?_
        refine AllReadyH.cons rfl (fun K hK => ?_) ?_
        obtain ⟨yn, hyn⟩ : ∃ z, y.alloc (.cells zero4E 37) = z := ⟨_, rfl⟩
        obtain ⟨gC, hgn⟩ : ∃ g, y.heap.size = g := ⟨_, rfl⟩
        have hbn : Below w8.heap.size w8 yn := by rw [← hyn]; exact below_then hb (below_new _ _)
        have hR1n := hR1.alloc (.cells zero4E 37)
        rw [hyn] at hR1n
        have hR2n := hR2.alloc (.cells zero4E 37)
        rw [hyn] at hR2n
        have hCn : Box gC zero4E 37 yn := by rw [← hyn, ← hgn]; exact Box.new _ _ _
        have hCln : w8.heap.size ≤ gC := by rw [← hgn]; exact hb.size
        have hR1Cn := ne_own hR1.lt (.inr (show y.heap.size ≤ gC by omega))
        have hR2Cn := ne_own hR2.lt (.inr (show y.heap.size ≤ gC by omega))
        rw [if_pos (by kernel_rfl)]
        go_simp
        (try rw [hyn])
        (try rw [hgn])
        refine hK.out _ _ ((hbn.cell (p := ⟨w1.heap.size, 0, none⟩) hpl).trans (H8.out.2.2.1.cell 0)) (fun hHeldn => ?_)
        try simp only [Act.put, List.getElem_toArray, List.getElem_cons_zero, List.getElem_cons_succ, List.setIfInBounds_toArray, List.set_cons_zero, List.set_cons_succ]
        clear hK K hyn hgn hHeld hb hR1 hR2 y
        revert hR2Cn
        revert hR1Cn
        revert hR2n
        revert hR1n
        revert ho2
        revert ho1
        revert hCln
        revert hCn
        revert hbn
        revert hHeldn
        revert d2
        revert o2
        revert b2
        revert d1
        revert o1
        revert b1
        revert gC
        revert gB
        revert cA
        revert gA
        revert c1
        revert g1
        revert g0
        revert yn
        refine ?ssome411
        rotate_left
        exact AllReadyH.nil
        -- carried out: (3, 1, 1)
        intro y g0 g1 c1 gA cA gB gC hHeld hb hA hC hCl
        refine wpAnyH_ready (rs := [7]) (by kernel_rfl) (by simp) ?_
        refine AllReadyH.cons rfl (fun K hK => ?_) ?_
        rw [if_pos (by kernel_rfl)]
        go_simp
        go_at_call 12
        refine (impl_taskeffect (some ⟨gp, 0, none⟩) n c P HSZ.out hnc _ (H8.out.2.2.2.1.below hb) av 8 cv V (by decide) hcv (Row.of_own (H8.out.2.1.kept (grown_below hb none) (by cases av <;> simp [Value.ownBlock]))) (some ⟨gA, 0, none⟩) _ cA (U ++ [5, 7]) (by omega) (own_le hA) (Row.of_own (L := (U ++ [5, 7])) (by simpa [ivs] using hA)) 0 true E2 HEY.out).mono ?_
        rintro e yn ⟨b1, o1, d1, b2, o2, d2, rfl, hmn, hbc⟩
        have hbn : Below w8.heap.size w8 yn := below_then hb hbc
        have ho1n : E2.V.length = o1 := own_len hmn.1
        have ho2n : E2.S.length = o2 := own_len hmn.2.1
        have hR1n := hmn.1.mono hb.size
        have hR2n := hmn.2.1.mono hb.size
        have hCn := hC.below hbc
        have hR1Cn := ne_own hmn.1.lt (.inl hC.lt)
        have hR2Cn := ne_own hmn.2.1.lt (.inl hC.lt)
        refine hK.out _ _ ((hbn.cell (p := ⟨w1.heap.size, 0, none⟩) hpl).trans (H8.out.2.2.1.cell 0)) (fun hHeldn => ?_)
        try simp only [Act.put, List.getElem_toArray, List.getElem_cons_zero, List.getElem_cons_succ, List.setIfInBounds_toArray, List.set_cons_zero, List.set_cons_succ]
        refine wpAnyH_take (i := 8) (v := .tuple #[effV b1 o1 d1 b2 o2 d2 E2, .bool true]) rfl (by kernel_rfl) (by kernel_rfl) (by kernel_rfl) (fun _ _ _ h => h) (Or.inl ⟨by rfl, (by intro w' hSw; (try dsimp only at hSw); go_simp)⟩) (by assumption) ?_
        try simp only [Act.put, List.getElem_toArray, List.getElem_cons_zero, List.getElem_cons_succ, List.setIfInBounds_toArray, List.set_cons_zero, List.set_cons_succ]
        refine wpAnyH_take (i := 9) (v := effV b1 o1 d1 b2 o2 d2 E2) rfl (by kernel_rfl) (by kernel_rfl) (by kernel_rfl) (fun _ _ _ h => h) (Or.inl ⟨by rfl, (by intro w' hSw; (try dsimp only at hSw); go_simp)⟩) (by assumption) ?_
        try simp only [Act.put, List.getElem_toArray, List.getElem_cons_zero, List.getElem_cons_succ, List.setIfInBounds_toArray, List.set_cons_zero, List.set_cons_succ]
        refine wpAnyH_take (i := 10) (v := .bool true) rfl (by kernel_rfl) (by kernel_rfl) (by kernel_rfl) (fun _ _ _ h => h) (Or.inl ⟨by rfl, (by intro w' hSw; (try dsimp only at hSw); go_simp)⟩) (by assumption) ?_
        try simp only [Act.put, List.getElem_toArray, List.getElem_cons_zero, List.getElem_cons_succ, List.setIfInBounds_toArray, List.set_cons_zero, List.set_cons_succ]
        clear hK K hmn hbc hHeld hb hA hC y
        revert hR2Cn
        revert hR1Cn
        revert hR2n
        revert hR1n
        revert ho2n
        revert ho1n
        revert hCl
        revert hCn
        revert hbn
        revert hHeldn
        revert d2
        revert o2
        revert b2
        revert d1
        revert o1
        revert b1
        revert gC
        revert gB
        revert cA
        revert gA
        revert c1
        revert g1
        revert g0
        revert yn
        refine ?ssome411
        exact AllReadyH.nil
        -- carried out: (4, 1, 1)
        intro y g0 g1 c1 gA cA gB gC b1 o1 d1 b2 o2 d2 hHeld hb hC hCl ho1 ho2 hR1 hR2 hR1C hR2C
        refine wpAnyH_ready (rs := [12]) (by kernel_rfl) (by simp) ?_
        refine AllReadyH.cons rfl (fun K hK => ?_) AllReadyH.nil
        have z0 : y.cell? ⟨gC, 0, none⟩ = some (.slice none 0 0) := hC.cell 0
        have f0 : y.frozen? ⟨gC, 0, none⟩ = false := hC.frozen 0
        have z1 : y.cell? ⟨gC, 1, none⟩ = some (.slice none 0 0) := hC.cell 1
        have f1 : y.frozen? ⟨gC, 1, none⟩ = false := hC.frozen 1
        have z2 : y.cell? ⟨gC, 2, none⟩ = some (.int .i64 0) := hC.cell 2
        have f2 : y.frozen? ⟨gC, 2, none⟩ = false := hC.frozen 2
        have z3 : y.cell? ⟨gC, 3, none⟩ = some (.int .i64 0) := hC.cell 3
        have f3 : y.frozen? ⟨gC, 3, none⟩ = false := hC.frozen 3
        have hgs : y.grownBy ((((y.setCell ⟨gC, 0, none⟩ (.slice b1 o1 d1)).setCell ⟨gC, 1, none⟩ (.slice b2 o2 d2)).setCell ⟨gC, 2, none⟩ (.int .i64 E2.N)).setCell ⟨gC, 3, none⟩ (.int .i64 E2.U)) (some gC) := grown_trans (grown_trans (grown_trans (grown_setCell _ _ _ _) (grown_setCell _ _ _ _)) (grown_setCell _ _ _ _)) (grown_setCell _ _ _ _)
        have hcx : Box gC #[.slice b1 o1 d1, .slice b2 o2 d2, .int .i64 E2.N, .int .i64 E2.U] 37 ((((y.setCell ⟨gC, 0, none⟩ (.slice b1 o1 d1)).setCell ⟨gC, 1, none⟩ (.slice b2 o2 d2)).setCell ⟨gC, 2, none⟩ (.int .i64 E2.N)).setCell ⟨gC, 3, none⟩ (.int .i64 E2.U)) := (((hC.set 0 _).set 1 _).set 2 _).set 3 _
        obtain ⟨yn, hyn⟩ : ∃ z, (((y.setCell ⟨gC, 0, none⟩ (.slice b1 o1 d1)).setCell ⟨gC, 1, none⟩ (.slice b2 o2 d2)).setCell ⟨gC, 2, none⟩ (.int .i64 E2.N)).setCell ⟨gC, 3, none⟩ (.int .i64 E2.U) = z := ⟨_, rfl⟩
        rw [hyn] at hgs hcx
        have hbn : Below w8.heap.size w8 yn := hb.grown hgs hb.size (fun q hq => by cases hq; exact hCl)
        rw [if_pos (by kernel_rfl)]
        go_simp
        (try rw [hyn])
        refine hK.out _ _ ((hbn.cell (p := ⟨w1.heap.size, 0, none⟩) hpl).trans (H8.out.2.2.1.cell 0)) (fun hHeldn => ?_)
        clear hK K hyn z0 z1 z2 z3 f0 f1 f2 f3
        try simp only [Act.put, List.getElem_toArray, List.getElem_cons_zero, List.getElem_cons_succ, List.setIfInBounds_toArray, List.set_cons_zero, List.set_cons_succ]
        refine wpAnyH_take (i := 13) (v := .bool true) rfl (by kernel_rfl) (by kernel_rfl) (by kernel_rfl) (fun _ _ _ h => h) (Or.inl ⟨by rfl, (by intro w' hSw; (try dsimp only at hSw); go_simp)⟩) (by assumption) ?_
        try simp only [Act.put, List.getElem_toArray, List.getElem_cons_zero, List.getElem_cons_succ, List.setIfInBounds_toArray, List.set_cons_zero, List.set_cons_succ]
        have HT := Lib.hid (And.intro (H8.out.1.below hbn) (And.intro hcx (And.intro (below_then H8.out.2.2.2.2.1 hbn) (And.intro (H8.out.2.2.2.2.2.2.1.below hbn) (And.intro (H8.out.2.2.2.2.2.2.2.below hbn) (And.intro (Row.of_own (hR1.kept hgs hR1C)) (Row.of_own (hR2.kept hgs hR2C))))))))
        have q0 : yn.cell? ⟨w7.heap.size, 0, none⟩ = some (.slice a1 m1 k1) := HT.out.1.cell 0
        have q1 : yn.cell? ⟨w7.heap.size, 1, none⟩ = some (.slice a2 m2 k2) := HT.out.1.cell 1
        have q2 : yn.cell? ⟨w7.heap.size, 2, none⟩ = some (.int .i64 E2.N) := HT.out.1.cell 2
        have q3 : yn.cell? ⟨w7.heap.size, 3, none⟩ = some (.int .i64 E2.U) := HT.out.1.cell 3
        have p0 : yn.cell? ⟨gC, 0, none⟩ = some (.slice b1 o1 d1) := HT.out.2.1.cell 0
        have p1 : yn.cell? ⟨gC, 1, none⟩ = some (.slice b2 o2 d2) := HT.out.2.1.cell 1
        have p2 : yn.cell? ⟨gC, 2, none⟩ = some (.int .i64 E2.N) := HT.out.2.1.cell 2
        have p3 : yn.cell? ⟨gC, 3, none⟩ = some (.int .i64 E2.U) := HT.out.2.1.cell 3
        obtain rfl : m1 = o1 := by omega
        obtain rfl : m2 = o2 := by omega
        refine wpAnyH_done (by kernel_rfl) ?_ _
        go_wp2_with (go_at_call 15; (with_reducible refine (same_eff _ E2 a1 m1 k1 a2 m2 k2 b1 d1 b2 d2 hn1 hn2 HT.out.2.2.2.1 HT.out.2.2.2.2.1 HT.out.2.2.2.2.2.1 HT.out.2.2.2.2.2.2).mono ?_); rintro e yF ⟨rfl, hbF⟩; refine Hid.out ?_)
        have HF := Lib.hid (below_then HT.out.2.2.1 hbF)
        clear hbF
        refine Lib.hid ?_
        go_wp2
        go_ret
        exact ⟨rfl, HF.out⟩

/-! ### THE ROW's STEP: WRITTEN OUT: LEAVE IT -/
set_option maxRecDepth 100000 in
theorem lifted (os : Os) (started : os.Started) (H : Type) (enc : TypeId × Value → H) :
    ReturnsInHanded {} Try.checked os 4 .any (Rows.fnSensesSpec.pre6 enc Try.prog Try.f4 Rows.fnSensesRow.domain false) (Rows.fnSensesSpec.post enc Try.prog Try.f4 false true false false) := by
  refine returnsInHanded_of_change (C := Try.checked) own started (by kernel_rfl) Try.func4
    (ChangeSpec.witness6 (enc := enc) (C := Try.checked) false ⟨#[], #[.slice none 0 0], []⟩ 8 (by kernel_rfl) (by kernel_rfl) (by kernel_rfl) (by kernel_rfl)) ?_
  intro W base args ds gs before hval0 hW hcnd _
  have hval : ∀ (j : Nat) t v, Try.f4.params[j]? = some t → args[j]? = some v → Value.okWide Try.prog W .any base t v := hval0
  have hW' := hW
  obtain ⟨p, q, hA0, hV, rfl, hfz, hnd⟩ := hW
  have hA : DataW.TrodAll enc Try.prog W 0 (fun _ => true) true Try.f4.params.toList args.toList ds p := hA0
  rw [Try.params4] at hA hval
  obtain ⟨v0, vs0, d0, ds0, p0, q0, hargs, rfl, rfl, h0, r0⟩ := trodAll_cons hA
  obtain ⟨rfl, rfl, rfl⟩ := trodAll_nil r0
  obtain rfl : args = #[v0] := by cases args; simp_all
  obtain ⟨rfl, rfl⟩ := trodVars_none hV
  obtain ⟨a0, len0, cap0, rfl⟩ := okWide_slice Try.underlying22 (hval 0 22 v0 rfl rfl)
  have k0 := h0
  have lt0 : ∀ x ∈ p0, x.block < W.heap.size := by obtain ⟨m, hm⟩ := k0; exact DataW.trod_lt m _ _ _ hm
  obtain ⟨z0, w0⟩ : ∃ zs, IsRow .u8 W a0 len0 cap0 zs := by
    obtain ⟨fuel, hf⟩ := h0
    rcases open_ints Try.underlying22 Try.underlying5 (by kernel_rfl) hf with ⟨hcs, _⟩ | ⟨x, l, c, zs, hcs, _, hl, hm, hz, _, hcell, hwz⟩
    · simp [Value.cells] at hcs
      obtain ⟨rfl, rfl, rfl⟩ := hcs
      exact ⟨[], .inl ⟨rfl, rfl, rfl, rfl⟩⟩
    · simp [Value.cells] at hcs
      obtain ⟨rfl, rfl, rfl⟩ := hcs
      exact ⟨zs, .inr ⟨_, rfl, hl, hm, by simpa using hz, hcell, hwz⟩⟩
  clear hA0 hval0
  refine (walk a0 len0 cap0 z0 W w0).mono fun e W' ⟨he, bel⟩ => ?_
  subst he
  exact ⟨_, rfl, _, _, _, [], _, [], hW', trodAll_mk1 (shut_bool Try.underlying4 _), (trodAll_cons_mk (Below.trod laidOut (by kernel_rfl) (of_decide_eq_true (by kernel_rfl)) k0 bel lt0) trodAll_mk0), rfl, bel.frame _, fun h => by cases h⟩

theorem over : Rows.fnSensesRow.holds Try.pinned (OpenSpec.ofChange Rows.fnSensesSpec) :=
  OpenClaim.holds_of_wide 4 Try.f4 rfl rfl rfl rfl rfl rfl rfl ⟨rfl, rfl, rfl, rfl, rfl⟩ rfl rfl rfl rfl rfl (by kernel_rfl) Try.func4 (by kernel_rfl)
    (of_decide_eq_true (by kernel_rfl)) (by unfold Func.isWrapper; first | (rw [if_pos (by decide +kernel)]; kernel_rfl) | (rw [if_neg (by decide +kernel)]; exact ⟨rfl, rfl⟩))
    (fun os started H enc _ => lifted os started H enc)

/-- ████ THE STATEMENT ████ -/
theorem proved : Rows.FnSensesSaid := over
#print axioms proved
end Go.Proofs.Ytekdnhhmiabngaa.fnSenses
