/- For every input the law FnReadsFirst returns true and leaves its argument as it was; no condition. -/
import Derived.Test.YtekdnhhmiabngaaGreatRows
import Derived.WalkKit
import Derived.ProofKit
import Derived.OpenShut
import Derived.ShutString
import Derived.ChangeOld
import Derived.Below
import Derived.Test.YtekdnhhmiabngaaGreatGHub5
import Derived.Test.YtekdnhhmiabngaaGreatGHub6
import Derived.Test.YtekdnhhmiabngaaGreatGHub13
import Derived.Test.YtekdnhhmiabngaaGreatGHub24
import Derived.Test.YtekdnhhmiabngaaGreatGHub25
import Derived.Test.YtekdnhhmiabngaaGreatGHub26
import Derived.Test.YtekdnhhmiabngaaGreatGHub29
import Derived.Test.YtekdnhhmiabngaaGreatGHub33
import Derived.Test.YtekdnhhmiabngaaGreatGHub34
import Derived.Test.YtekdnhhmiabngaaGreatGHub37
import Derived.Test.YtekdnhhmiabngaaGreatGHub35
import Derived.Test.YtekdnhhmiabngaaGreatGHub2
import Derived.Test.YtekdnhhmiabngaaGreatGHub10
import Derived.Test.YtekdnhhmiabngaaGreatGHub38
import Derived.Test.YtekdnhhmiabngaaGreatGHub43
import Derived.Test.YtekdnhhmiabngaaGreatGHub42
import Derived.Deep.RegionHeld3
import Derived.Deep.RegionLaw
import Derived.Deep.AppendLies
namespace Go.Proofs.YtekdnhhmiabngaaGreat.fnReadsFirst
open Go.ChangeShapes Go.WideShapes Go.ChangeAt Go.RowKit
open Go.ChangeMaps (open_string shut_string)
set_option linter.unusedVariables false

theorem own : ownKnob Tryz.prog.godebug = none := by kernel_rfl
theorem laidOut : laidOutB Tryz.prog = true := by kernel_rfl

/-- WHAT THE WALK IS TOLD OF A SLICE OF INTEGERS THAT CAME IN: it is nil; or it leads to a row of 'cap' cells, the numbers 'zs' (the first 'len' are its elements, the rest its spare room), each fitting its kind. -/
def IsRow (k : IntKind) (w : World) (a : Option Addr) (len cap : Nat) (zs : List Int) : Prop :=
  (a = none ∧ len = 0 ∧ cap = 0 ∧ zs = []) ∨
  ∃ x, a = some x ∧ len ≤ cap ∧ cap ≤ maxLen ∧ zs.length = cap ∧ (∀ i, i < zs.length → w.cell? (x.add i) = some (.int k (zs.getD i 0))) ∧ ∀ n ∈ zs, (Lit.int k n).wf = true

open Go.Proofs.YtekdnhhmiabngaaGreat.row Go.Proofs.YtekdnhhmiabngaaGreat.val Go.Proofs.YtekdnhhmiabngaaGreat.expr Go.Proofs.YtekdnhhmiabngaaGreat.stm Go.Proofs.YtekdnhhmiabngaaGreat.cur Go.Proofs.YtekdnhhmiabngaaGreat.blk Go.Proofs.YtekdnhhmiabngaaGreat.prg Go.Proofs.YtekdnhhmiabngaaGreat.exe Go.Proofs.YtekdnhhmiabngaaGreat.sets
theorem rng_below {w w' : World} {g o : Nat} {cs : List Value} (h : w.rangeAt g o cs) (hg : g < w.heap.size) (hb : Below w.heap.size w w') : w'.rangeAt g o cs := fun j v hj => (hb.cell (p := ⟨g, o + j, none⟩) hg).trans (h j v hj)
theorem sizes_drawn {P : List Tk} (hl : P.length ≤ 3) (h : ∀ t ∈ P, TkOk t) : Sizes P := ⟨by omega, fun t ht => by have := (h t ht).2.1; omega⟩
theorem prg_drawn {P : List Tk} (h1 : 1 ≤ P.length) (hl : P.length ≤ 3) (h : ∀ t ∈ P, TkOk t) : IsPrg P := ⟨h1, by omega, fun t ht => ⟨(h t ht).1, (h t ht).2.2⟩⟩
theorem rdg_val {R : List Int} (h : RdgIn R) : allV R = true := (allV_iff R).2 fun q hq => by have := h q hq; exact isVal_in (by omega) (by omega)
theorem made_ati (w : World) (k B : Nat) (hk : w.heap.size = k) (hB : B ≤ k) (e : TypeId) : (w.alloc (.cells #[] e)).ownsRow B e 1 (.slice (some ⟨k, 0, none⟩) 0 0) 0 [] := by
  subst hk; exact World.ownsRow_made w #[] 0 hB (Nat.zero_le _) rfl
theorem own_slice1 {w : World} {B : Nat} {ty : TypeId} {v : Value} {n : Nat} {xs : List Value} (h : w.ownsRow B ty 1 v n xs) : ∃ ad cap, v = .slice ad n cap := by
  rcases h.2 with ⟨e, e0⟩ | ⟨g, c, _, e, _⟩
  · exact ⟨_, _, by rw [e, e0]⟩
  · exact ⟨_, _, e⟩
theorem news_int {w w' : World} {b off n : Nat} {A : List Int} (h : Row w (some ⟨b, off, none⟩) n A) (hb : Below w.heap.size w w') : ∀ j u, (ivs A)[j]? = some u → w'.cell? ((⟨b, off, none⟩ : Addr).add j) = some u := by
  intro j u hj
  have hjl : j < n := by have := (List.getElem?_eq_some_iff.1 hj).1; rw [ivs_length] at this; have := h.1; omega
  obtain ⟨b', off', x, e, hlt, hx, hc⟩ := h.2 j hjl
  cases e
  have h3 : u = .int .i64 x := by
    unfold ivs at hj
    rw [List.getElem?_map, hx] at hj
    exact (Option.some.inj hj).symm
  subst h3
  rw [Addr.add_mid, hb.cell (p := ⟨b, off + j, none⟩) hlt]; exact hc
theorem ivs_one1 (U : List Int) : ∀ u ∈ ivs U, u.oneCell' = true := by
  intro u hu
  unfold ivs at hu
  obtain ⟨x, _, rfl⟩ := List.mem_map.1 hu
  rfl
theorem put1 {w : World} {B g n c m : Nat} {P : List Int} {v : Int} (h : w.ownsRow B 3 1 (.slice (some ⟨g, 0, none⟩) n c) n (ivs P)) : (w.setCell ⟨g, m, none⟩ (.int .i64 v)).ownsRow B 3 1 (.slice (some ⟨g, 0, none⟩) n c) n (ivs (P.set m v)) := by
  have := (h.stored m (.int .i64 v)).1
  rw [ivs_set] at this; exact this
theorem eff_ext {A B : Eff} (h1 : A.V = B.V) (h2 : A.S = B.S) (h3 : A.N = B.N) (h4 : A.U = B.U) : A = B := by
  cases A; cases B; cases h1; cases h2; cases h3; cases h4; rfl
theorem dec_lst {f : Nat → Bool} {k : Nat} (hk : k < 8) : decide ((k : Int) ∈ lst f 8) = f k := by
  rw [Bool.eq_iff_iff, decide_eq_true_eq, lst_mem]; exact ⟨fun h => h.2, fun h => ⟨hk, h⟩⟩
theorem keptC {w w' : World} (hb : Below w.heap.size w w') {g o : Nat} {v : Value} (h : w.cell? ⟨g, o, none⟩ = some v) : w'.cell? ⟨g, o, none⟩ = some v :=
  (hb.cell (World.block_lt_of_cell? w _ h)).trans h
theorem kept6 {w w' : World} {g1 g2 g3 g4 g5 g6 o1 o2 o3 o4 o5 o6 : Nat} {v1 v2 v3 v4 v5 v6 : Value} (hb : Below w.heap.size w w')
    (h : w.cell? ⟨g1, o1, none⟩ = some v1 ∧ w.cell? ⟨g2, o2, none⟩ = some v2 ∧ w.cell? ⟨g3, o3, none⟩ = some v3 ∧ w.cell? ⟨g4, o4, none⟩ = some v4 ∧ w.cell? ⟨g5, o5, none⟩ = some v5 ∧ w.cell? ⟨g6, o6, none⟩ = some v6) :
    w'.cell? ⟨g1, o1, none⟩ = some v1 ∧ w'.cell? ⟨g2, o2, none⟩ = some v2 ∧ w'.cell? ⟨g3, o3, none⟩ = some v3 ∧ w'.cell? ⟨g4, o4, none⟩ = some v4 ∧ w'.cell? ⟨g5, o5, none⟩ = some v5 ∧ w'.cell? ⟨g6, o6, none⟩ = some v6 :=
  ⟨keptC hb h.1, keptC hb h.2.1, keptC hb h.2.2.1, keptC hb h.2.2.2.1, keptC hb h.2.2.2.2.1, keptC hb h.2.2.2.2.2⟩
set_option maxHeartbeats 8000000 in
set_option maxRecDepth 100000 in
theorem walk (a0 : Option Addr) (len0 cap0 : Nat) (z0 : List Int) (w : World) (w0 : IsRow .u8 w a0 len0 cap0 z0) :
    Calls Tryz.prog 4 #[.slice a0 len0 cap0] w fun e w' => e = .returned (.bool true) ∧ Below w.heap.size w w' := by
  obtain ⟨i0, hi, hz0, hz1, hz2⟩ := info_parts row.infoInt
  have HB : Hid (∀ i : Nat, i < len0 → ∃ (b off : Nat) (v : Int), a0 = some ⟨b, off, none⟩ ∧ w.cell? ⟨b, off + i, none⟩ = some (.int .u8 v)) := by
    intro i hi
    rcases w0 with ⟨_, h0, _⟩ | ⟨x, rfl, hl, _, hz, hcell, _⟩
    · omega
    · obtain ⟨b, off, rfl, hc⟩ := ints_at hcell (by omega)
      exact ⟨b, off, _, rfl, hc i (by omega)⟩
  have HB2 : Hid (∀ w1 : World, Below w.heap.size w w1 → ∀ i : Nat, i < len0 → ∃ (b off : Nat) (v : Int), a0 = some ⟨b, off, none⟩ ∧ w1.cell? ⟨b, off + i, none⟩ = some (.int .u8 v)) := by
    intro w1 hb1 i hi
    obtain ⟨b, off, v, ha, hv⟩ := HB.out i hi
    exact ⟨b, off, v, ha, (hb1.cell (World.block_lt_of_cell? w _ hv)).trans hv⟩
  clear w0
  by_cases hbig : (1048576 : Int) < len0
  · go_enter Tryz.func4, Tryz.ntmps4
    go_wp2_with (go_at_call 10; refine (big_yes _ _ _ _ hbig).mono ?_; rintro e w1 ⟨rfl, rfl⟩)
    go_ret
    exact ⟨rfl, Below.refl _ _⟩
  · have hsm : (len0 : Int) ≤ 1048576 := by omega
    clear hbig
    go_enter Tryz.func4, Tryz.ntmps4
    go_wp2_with (first
      | (go_at_call 10; refine (big_no _ _ _ _ hsm).mono ?_; rintro e w1 ⟨rfl, rfl⟩)
      | (go_at_call 11; refine (drawprogram_any _ _ _ _ hsm HB.out).mono ?_; rintro e w1 ⟨ad, n, c, P, rfl, hn1, hn3, hnc, HOK, HR, hb1⟩; refine Hid.out ?_))
    have HA1 := Lib.hid (And.intro (Box.new w1 #[.slice none 0 0] 26) (below_new w1 (.cells #[.slice none 0 0] 26)))
    obtain ⟨gp, t, gb, nb, cb, rfl, _, hgp, ht, hrg, hbc, _, hrow⟩ := HR.out.2 0 (by omega)
    have hPl : P.length = n := HR.out.1
    have HB1 := Lib.hid (And.intro hb1 (And.intro HR.out.row (And.intro hrg hrow)))
    have hIP : IsPrg P := prg_drawn (by omega) (by omega) HOK.out
    have HSZ := Lib.hid (sizes_drawn (show P.length ≤ 3 by omega) HOK.out)
    have hTO := HOK.out t (List.mem_of_getElem? ht)
    have hnb : t.b.length = nb := hrow.1
    have hnbI : (nb : Int) ≤ 20 := by have := hTO.2.1; omega
    clear hb1 HR hrg hrow
    refine Lib.hid ?_
    go_wp2_with ((refine wpList_store_box rfl 26 _ _ rfl w1.heap.size _ _ HA1.out.1 #[.slice (some ⟨gp, 0, none⟩) n c] rfl rfl rfl (by kernel_rfl) (by simp [Value.oneCell']) ?_); intro w2 hx2 hg2; refine Hid.out ?_)
    have hb2 : Below w1.heap.size w1 w2 := HA1.out.2.grown hg2 HA1.out.2.size (fun j hj => by cases hj; exact Nat.le_refl _)
    have H2 := Lib.hid (And.intro hx2 (And.intro (HB1.out.2.1.below hb2) (And.intro (rng_below HB1.out.2.2.1 hgp hb2) (And.intro (HB1.out.2.2.2.below hb2) (below_then HB1.out.1 hb2)))))
    clear hx2 hg2 hb2 HA1 HB1
    refine Lib.hid ?_
    go_wp2_with (go_at_call 12; refine (vars_any _ _ _ _ hsm (HB2.out _ H2.out.2.2.2.2)).mono ?_; rintro e w3 ⟨av, cv, V, rfl, HVL, HVV, hown3, hb3⟩; refine Hid.out ?_)
    have hvok : varsOk V = true := (varsOk_iff V).2 ⟨HVL.out, HVV.out⟩
    have hcv : 8 ≤ cv := own_le hown3
    have H3 := Lib.hid (And.intro hown3 (And.intro (H2.out.1.below hb3) (And.intro (H2.out.2.1.below hb3) (And.intro (rng_below H2.out.2.2.1 (Nat.lt_of_lt_of_le hgp (Nat.le_of_lt H2.out.1.lt)) hb3) (And.intro (H2.out.2.2.2.1.below hb3) (below_then H2.out.2.2.2.2 hb3))))))
    have hgp3 : gp < w3.heap.size := Nat.lt_of_lt_of_le hgp (Nat.le_trans (Nat.le_of_lt H2.out.1.lt) hb3.size)
    clear hown3 hb3 H2 HVL HVV
    refine Lib.hid ?_
    go_wp2_with (go_at_call 13; refine (readings_any _ _ _ _ hsm (HB2.out _ H3.out.2.2.2.2.2)).mono ?_; rintro e w4 ⟨vr, R, rfl, hR1, hR9, HRG, hown4, hb4⟩; refine Hid.out ?_)
    obtain ⟨gr, cr, rfl, _, _, _⟩ := own_atI hown4 (k := 0) (by omega)
    have hcr : R.length ≤ cr := own_le hown4
    have hRv : allV R = true := rdg_val HRG.out
    have H4 := Lib.hid (And.intro (H3.out.1.kept (grown_below hb4 none) (by cases av <;> simp [Value.ownBlock])) (And.intro (H3.out.2.1.below hb4) (And.intro (H3.out.2.2.1.below hb4) (And.intro (rng_below H3.out.2.2.2.1 hgp3 hb4) (And.intro (H3.out.2.2.2.2.1.below hb4) (And.intro (below_then H3.out.2.2.2.2.2 hb4) hown4))))))
    have hgp4 : gp < w4.heap.size := Nat.lt_of_lt_of_le hgp3 hb4.size
    have hRI : (R.length : Int) ≤ 1048576 := by omega
    clear hown4 hb4 H3
    refine Lib.hid ?_
    go_wp2_with (go_at_call 19; refine (places_any _ _ _ _ hsm (HB2.out _ H4.out.2.2.2.2.2.1)).mono ?_; rintro e w5 ⟨vX, X, rfl, hXl, HXX, hownX, hb5⟩; refine Hid.out ?_)
    obtain ⟨gx, cx, rfl, _, _, _⟩ := own_atI hownX (k := 0) (by omega)
    obtain ⟨gv, _, e1, _, _, _⟩ := own_atI H4.out.1 (k := 0) (by omega)
    injection e1 with e1 e2 e3
    subst e1
    clear e2 e3
    have H5 := Lib.hid (And.intro ((Row.of_own H4.out.1).below hb5) (And.intro (H4.out.2.1.below hb5) (And.intro (H4.out.2.2.1.below hb5) (And.intro (rng_below H4.out.2.2.2.1 hgp4 hb5) (And.intro (H4.out.2.2.2.2.1.below hb5) (And.intro (below_then H4.out.2.2.2.2.2.1 hb5) (And.intro ((Row.of_own H4.out.2.2.2.2.2.2).below hb5) (Row.of_own hownX))))))))
    have hgp5 : gp < w5.heap.size := Nat.lt_of_lt_of_le hgp4 hb5.size
    clear hownX hb5 H4
    refine Lib.hid ?_
    obtain ⟨t9, T, ht9, hTA⟩ := taskAt_ex (j := 0) (Y := R) hIP hvok hRv (by omega)
    obtain rfl : t9 = t := by rw [ht] at ht9; exact (Option.some.inj ht9).symm
    obtain ⟨r, E, hE⟩ := effIs_ex P V R 0
    obtain rfl := (hE.at hTA).1
    have hV8 := ((varsOk_iff V).1 hvok).1
    have hVv := ((varsOk_iff V).1 hvok).2
    have hbk : IsBlk t9.b := hTO.1
    have hnb20 : (nb : Int) ≤ 1048576 := by omega
    have hS3 : E.S.length ≤ 3000 := by
      have h1 := (hE.at hTA).2
      have h2 := hTA.small (listSrc R)
      rw [h1]; simp only [effOf]; omega
    have hn0 : (0 : Int) < n := by omega
    have c0 : w5.cell? ⟨w1.heap.size, 0, none⟩ = some (.slice (some ⟨gp, 0, none⟩) n c) := H5.out.2.1.cell 0
    have HE := Lib.hid hE
    have HTA := Lib.hid hTA
    have HRG5 := Lib.hid (show w5.rangeAt gp 0 (tkC (some ⟨gb, 0, none⟩) nb cb t9) from by simpa using H5.out.2.2.2.1)
    obtain ⟨fr, hfr⟩ := is_ex (FirstP t9)
    obtain ⟨fu, hfu⟩ := is_ex (fun v => IsBlk t9.b ∧ WAt t9.b nb v)
    have HFM := Lib.hid (And.intro hfr hfu)
    clear hE hTA ht9 hfr hfu
    obtain ⟨bx, ox, x, ex, _, hx, hcx⟩ := H5.out.2.2.2.2.2.2.2.2 0 (by omega)
    obtain ⟨rfl, rfl⟩ : bx = gx ∧ ox = 0 := by injection ex with ex; injection ex with h1 h2; exact ⟨h1.symm, h2.symm⟩
    obtain ⟨by', oy, y, ey, _, hy, hcy⟩ := H5.out.2.2.2.2.2.2.2.2 1 (by omega)
    obtain ⟨rfl, rfl⟩ : by' = bx ∧ oy = 0 := by injection ey with ey; injection ey with h1 h2; exact ⟨h1.symm, h2.symm⟩
    have hx' := HXX.out x (List.mem_of_getElem? hx)
    have hy' := HXX.out y (List.mem_of_getElem? hy)
    simp only [Nat.zero_add, Nat.add_zero] at hcx hcy
    have HCY := Lib.hid hcy
    obtain ⟨j, hj8, hj⟩ : ∃ j : Nat, j < 8 ∧ x % 8 = (j : Int) := ⟨(x % 8).toNat, by omega, by omega⟩
    have hmod1 : x.tmod 8 = x % 8 := Int.tmod_eq_emod_of_nonneg hx'.1
    rw [hj] at hmod1
    have hjI : (j : Int) < 8 := by omega
    have hj0 : (0 : Int) ≤ j := by omega
    have hLx := isVal_in (n := y - 5000) (by omega) (by omega)
    clear ex ey hx hy hcy
    go_wp2_with (first
      | (refine wpList_load_mid rfl 34 _ rfl gp 0 rfl (tkC (some ⟨gb, 0, none⟩) nb cb t9) _ HRG5.out Tryz.underlying34 rfl (by kernel_rfl) ?_)
      | (go_at_call 20; refine (impl_mayread (some ⟨gb, 0, none⟩) nb cb t9 hnb20 _ H5.out.2.2.2.2.1 fr HFM.out.1).mono ?_; rintro e w6 ⟨ay, ny, cy, rfl, hown6, hb6⟩; refine Hid.out ?_))
    have hny : (ny : Int) ≤ 8 := by have h1 := own_len hown6; have h2 := lst_len fr 8; omega
    have H6 := Lib.hid (And.intro (H5.out.1.below hb6) (And.intro (H5.out.2.1.below hb6) (And.intro (H5.out.2.2.1.below hb6) (And.intro (rng_below H5.out.2.2.2.1 hgp5 hb6) (And.intro (H5.out.2.2.2.2.1.below hb6) (And.intro (below_then H5.out.2.2.2.2.2.1 hb6) (And.intro (H5.out.2.2.2.2.2.2.1.below hb6) (Row.of_own hown6))))))))
    have HCY6 := Lib.hid (keptC hb6 HCY.out)
    have hgp6 : gp < w6.heap.size := Nat.lt_of_lt_of_le hgp5 hb6.size
    clear hown6 hb6 H5 c0 hcx HCY HRG5
    cases hf : fr j
    · have Q1 := Lib.hid (has_any w6 ay ny cy _ (j : Int) false (by omega) H6.out.2.2.2.2.2.2.2 (by rw [dec_lst hj8]; exact hf))
      have HNV := Lib.hid (news_int H6.out.1 (below_new w6 (.cells #[] 3)))
      refine Lib.hid ?_
      go_wp2_with (first
        | (go_at_call 17; (with_reducible refine (Q1.out).mono ?_); rintro e w2 ⟨rfl, rfl⟩)
        | (at_builtin; refine wpList_append_own_at _ rfl _ _ 28 rfl w6.heap.size 3 i0 (.int .i64 0) 1 8 Tryz.underlying28 hi hz0 hz1 hz2 rfl (by decide) _ _ _ rfl (made_ati w6 w6.heap.size w6.heap.size rfl (Nat.le_refl _) _) ⟨gv, 0, none⟩ 8 cv (ivs V) rfl (by rw [ivs_length, hV8]) HNV.out (ivs_one1 V) (by unfold maxLen; omega) (by omega) (by simp) ?_; intro v7 w7 hown hgrow _ hat; refine Hid.out ?_))
      rw [Nat.zero_add, List.nil_append] at hown
      have hbA : Below w6.heap.size w6 w7 := (below_new w6 (.cells #[] 3)).grown hgrow (by simp) (fun k hk => by cases hk; exact Nat.le_refl _)
      obtain ⟨a9, c9, rfl⟩ := own_slice1 hown
      obtain ⟨g9, X9, rfl, hg0, hg1, hX9, hfz⟩ := own_store hown hj8
      have hcy7 := keptC hbA HCY6.out
      have hbS : Below w6.heap.size w6 (w7.setCell ⟨g9, j, none⟩ (.int .i64 (y - 5000))) := hbA.grown (grown_setCell _ g9 j _) hbA.size (fun i hi => by cases hi; exact hg0)
      have hc9 : 8 ≤ c9 := own_le hown
      obtain ⟨L, hL⟩ : ∃ L, V.set j (y - 5000) = L := ⟨_, rfl⟩
      have hownL := put1 (m := j) (v := y - 5000) hown
      rw [hL] at hownL
      have hL8 : L.length = 8 := own_len hownL
      have hLok : varsOk L = true := (varsOk_iff L).2 ⟨hL8, fun q hq => by
        rw [← hL] at hq
        rcases List.mem_or_eq_of_mem_set hq with h | h
        · exact hVv q h
        · rw [h]; exact hLx⟩
      have hVL : ∀ v : Nat, ¬ (v = j) → V[v]? = L[v]? := fun v hv => by rw [← hL, List.getElem?_set_ne (fun h => hv h.symm)]
      obtain ⟨r2, E2, hE2⟩ := effIs_ex P L R 0
      obtain ⟨_, rfl, q1, q2, q3, q4, q5, q6⟩ := eff_agree HTA.out hLok (K := fun v => v = j) (fun v hv => by subst hv; exact fun h => by have := (HFM.out.1 v hj8).2 h; rw [hf] at this; cases this) hVL HE.out hE2
      obtain ⟨V2, rfl⟩ : ∃ V2, E2 = ⟨V2, E.S, E.N, E.U⟩ := ⟨E2.V, eff_ext rfl q1.symm q2.symm q3.symm⟩
      have HQ := Lib.hid (show ∀ v : Nat, v ≠ j ∨ WAt t9.b t9.b.length v → E.V[v]? = V2[v]? from q6)
      have hV28 : V2.length = 8 := q5
      have HE2 := Lib.hid hE2
      have HR9 := Lib.hid (And.intro (H6.out.1.below hbS) (And.intro (H6.out.2.1.below hbS) (And.intro (H6.out.2.2.1.below hbS) (And.intro (below_then H6.out.2.2.2.2.2.1 hbS) (And.intro (H6.out.2.2.2.2.2.2.1.below hbS) (And.intro (Row.of_own hownL) (And.intro (rng_below H6.out.2.2.2.1 hgp6 hbS) (H6.out.2.2.2.2.1.below hbS))))))))
      have hgpS : gp < (w7.setCell ⟨g9, j, none⟩ (.int .i64 (y - 5000))).heap.size := Nat.lt_of_lt_of_le hgp6 hbS.size
      have hc0 : w7.cell? ⟨w1.heap.size, 0, none⟩ = some (.slice (some ⟨gp, 0, none⟩) n c) := keptC hbA (H6.out.2.1.cell 0)
      clear hE2 q1 q2 q3 q5 q6 hown hownL hgrow hat hbA hbS H6 hVL hL HNV
      refine Lib.hid ?_
      go_wp2_with (first
        | (refine wpList_load_row rfl 26 _ rfl w1.heap.size rfl _ _ _ _ HR9.out.2.1 Tryz.underlying26 rfl (by kernel_rfl) ?_)
        | (go_at_call 16; (with_reducible refine (impl_taskeffect (some ⟨gp, 0, none⟩) n c P HSZ.out hnc _ HR9.out.2.2.1 (some ⟨gv, 0, none⟩) 8 cv V (by decide) hcv HR9.out.1 (some ⟨gr, 0, none⟩) R.length cr R hRI hcr HR9.out.2.2.2.2.1 0 true E HE.out).mono ?_); rintro e wa ⟨a1, m1, k1, a2, m2, k2, rfl, hm, hba⟩; refine Hid.out ?_))
      obtain rfl : m1 = 8 := by have := own_len hm.1; omega
      have hm2 := own_len hm.2.1
      have hgpa : gp < wa.heap.size := Nat.lt_of_lt_of_le hgpS hba.size
      have Ha := Lib.hid (And.intro (Box.new wa zero4E 37) (And.intro (below_new wa (.cells zero4E 37)) (And.intro (HR9.out.2.1.below hba) (And.intro (HR9.out.2.2.1.below hba) (And.intro (below_then HR9.out.2.2.2.1 hba) (And.intro (HR9.out.2.2.2.2.1.below hba) (And.intro (HR9.out.2.2.2.2.2.1.below hba) (And.intro (Row.of_own hm.1) (And.intro (Row.of_own hm.2.1) (And.intro (rng_below HR9.out.2.2.2.2.2.2.1 hgpS hba) (HR9.out.2.2.2.2.2.2.2.below hba)))))))))))
      clear hm hba HR9 hX9 hfz hcy7 hc0
      refine Lib.hid ?_
      go_wp2_with ((refine wpList_store_box rfl 37 _ _ rfl wa.heap.size _ _ Ha.out.1 #[.slice a1 8 k1, .slice a2 m2 k2, .int .i64 E.N, .int .i64 E.U] rfl rfl rfl (by kernel_rfl) (by simp [Value.oneCell']) ?_); intro wb hxb hgb; refine Hid.out ?_)
      have hbb : Below wa.heap.size wa wb := Ha.out.2.1.grown hgb Ha.out.2.1.size (fun j hj => by cases hj; exact Nat.le_refl _)
      have hgpb : gp < wb.heap.size := Nat.lt_of_lt_of_le hgpa hbb.size
      have Hb := Lib.hid (And.intro hxb (And.intro (Ha.out.2.2.1.below hbb) (And.intro (Ha.out.2.2.2.1.below hbb) (And.intro (below_then Ha.out.2.2.2.2.1 hbb) (And.intro (Ha.out.2.2.2.2.2.1.below hbb) (And.intro (Ha.out.2.2.2.2.2.2.1.below hbb) (And.intro (Ha.out.2.2.2.2.2.2.2.1.below hbb) (And.intro (Ha.out.2.2.2.2.2.2.2.2.1.below hbb) (And.intro (rng_below Ha.out.2.2.2.2.2.2.2.2.2.1 hgpa hbb) (Ha.out.2.2.2.2.2.2.2.2.2.2.below hbb))))))))))
      clear hxb hgb hbb Ha
      refine Lib.hid ?_
      go_wp2_with (first
        | (refine wpList_load_row rfl 26 _ rfl w1.heap.size rfl _ _ _ _ Hb.out.2.1 Tryz.underlying26 rfl (by kernel_rfl) ?_)
        | (go_at_call 16; (with_reducible refine (impl_taskeffect (some ⟨gp, 0, none⟩) n c P HSZ.out hnc _ Hb.out.2.2.1 (some ⟨g9, 0, none⟩) 8 c9 L (by decide) hc9 Hb.out.2.2.2.2.2.1 (some ⟨gr, 0, none⟩) R.length cr R hRI hcr Hb.out.2.2.2.2.1 0 true ⟨V2, E.S, E.N, E.U⟩ HE2.out).mono ?_); rintro e wc ⟨b1, n1, l1, b2, n2, l2, rfl, hm', hbc'⟩; refine Hid.out ?_))
      obtain rfl : n1 = 8 := by have := own_len hm'.1; have h8 : V2.length = n1 := this; omega
      obtain rfl : n2 = m2 := by have h8 : E.S.length = n2 := own_len hm'.2.1; omega
      have hgpc : gp < wc.heap.size := Nat.lt_of_lt_of_le hgpb hbc'.size
      have Hc := Lib.hid (And.intro (Box.new wc zero4E 37) (And.intro (below_new wc (.cells zero4E 37)) (And.intro (Hb.out.1.below hbc') (And.intro (below_then Hb.out.2.2.2.1 hbc') (And.intro (Hb.out.2.2.2.2.2.2.1.below hbc') (And.intro (Hb.out.2.2.2.2.2.2.2.1.below hbc') (And.intro (Row.of_own hm'.1) (And.intro (Row.of_own hm'.2.1) (And.intro (rng_below Hb.out.2.2.2.2.2.2.2.2.1 hgpb hbc') (And.intro (Hb.out.2.2.2.2.2.2.2.2.2.below hbc') (Hb.out.2.1.below hbc')))))))))))
      clear hm' hbc' Hb
      refine Lib.hid ?_
      go_wp2_with ((refine wpList_store_box rfl 37 _ _ rfl wc.heap.size _ _ Hc.out.1 #[.slice b1 8 l1, .slice b2 n2 l2, .int .i64 E.N, .int .i64 E.U] rfl rfl rfl (by kernel_rfl) (by simp [Value.oneCell']) ?_); intro wd hxd hgd; refine Hid.out ?_)
      have hbd : Below wc.heap.size wc wd := Hc.out.2.1.grown hgd Hc.out.2.1.size (fun j hj => by cases hj; exact Nat.le_refl _)
      have Hd := Lib.hid (And.intro hxd (And.intro (Hc.out.2.2.1.below hbd) (And.intro (below_then Hc.out.2.2.2.1 hbd) (And.intro (Hc.out.2.2.2.2.1.below hbd) (And.intro (Hc.out.2.2.2.2.2.1.below hbd) (And.intro (Hc.out.2.2.2.2.2.2.1.below hbd) (And.intro (Hc.out.2.2.2.2.2.2.2.1.below hbd) (And.intro (rng_below Hc.out.2.2.2.2.2.2.2.2.1 hgpc hbd) (And.intro (Hc.out.2.2.2.2.2.2.2.2.2.1.below hbd) (Hc.out.2.2.2.2.2.2.2.2.2.2.below hbd))))))))))
      have hn2 : (n2 : Int) ≤ 1048576 := by omega
      clear hxd hgd hbd Hc
      have x0 : wd.cell? ⟨wa.heap.size, 0, none⟩ = some (.slice a1 8 k1) := Hd.out.2.1.cell 0
      have x1 : wd.cell? ⟨wa.heap.size, 1, none⟩ = some (.slice a2 n2 k2) := Hd.out.2.1.cell 1
      have y0 : wd.cell? ⟨wc.heap.size, 0, none⟩ = some (.slice b1 8 l1) := Hd.out.1.cell 0
      have y1 : wd.cell? ⟨wc.heap.size, 1, none⟩ = some (.slice b2 n2 l2) := Hd.out.1.cell 1
      refine Lib.hid ?_
      go_wp2_with (go_at_call 21; (with_reducible refine (same_row _ a2 b2 n2 k2 l2 E.S hn2 Hd.out.2.2.2.2.1 Hd.out.2.2.2.2.2.2.1).mono ?_); rintro e we ⟨rfl, hge⟩; refine Hid.out ?_)
      have hbe := below_grown hge
      have He := Lib.hid (And.intro (Hd.out.1.below hbe) (And.intro (Hd.out.2.1.below hbe) (And.intro (below_then Hd.out.2.2.1 hbe) (And.intro (Hd.out.2.2.2.1.below hbe) (And.intro (Hd.out.2.2.2.2.2.1.below hbe) (And.intro (fun j v hj => keptC hbe (Hd.out.2.2.2.2.2.2.2.1 j v hj)) (And.intro (Hd.out.2.2.2.2.2.2.2.2.1.below hbe) (Hd.out.2.2.2.2.2.2.2.2.2.below hbe))))))))
      have x2 : we.cell? ⟨wa.heap.size, 2, none⟩ = some (.int .i64 E.N) := He.out.2.1.cell 2
      have x3 : we.cell? ⟨wa.heap.size, 3, none⟩ = some (.int .i64 E.U) := He.out.2.1.cell 3
      have y2 : we.cell? ⟨wc.heap.size, 2, none⟩ = some (.int .i64 E.N) := He.out.1.cell 2
      have y3 : we.cell? ⟨wc.heap.size, 3, none⟩ = some (.int .i64 E.U) := He.out.1.cell 3
      clear x0 x1 y0 y1 hge hbe Hd
      refine Lib.hid ?_
      go_wp2
      clear x2 x3 y2 y3
      go_loopw [13] (fun i wr => ∃ k : Nat, k ≤ 8 ∧ i = .int .i64 k ∧ Hid (Below we.heap.size we wr)) (fun i _ => 8 - (intOf i).toNat)
      case atStart => exact ⟨0, Nat.zero_le _, rfl, Below.refl _ _⟩
      case round =>
        obtain ⟨k, hk, rfl, HRW⟩ := hrel
        have hx0 : wr.cell? ⟨wa.heap.size, 0, none⟩ = some (.slice a1 8 k1) := keptC HRW.out (He.out.2.1.cell 0)
        have hy0 : wr.cell? ⟨wc.heap.size, 0, none⟩ = some (.slice b1 8 l1) := keptC HRW.out (He.out.1.cell 0)
        by_cases hlt : k < 8
        · have hI : (k : Int) < 8 := by omega
          by_cases hkj : k = j
          · subst hkj
            have hne : decide (k ≠ k) = false := by simp
            go_wp2
            go_quiet (fail)
            go_wp2
            go_roundw
            case rel => exact ⟨k + 1, by omega, by go_num, by first | exact HRW.out | exact below_drewN HRW.out _⟩
            case measure => simp [intOf]; omega
          · have hkI : ¬ (k : Int) = j := by omega
            have hkI2 : ((k : Int) == j) = false := by simpa using hkI
            obtain ⟨ga, oa, xa, ha, _, hxa, hca⟩ := (He.out.2.2.2.1.below HRW.out).2 k hlt
            obtain ⟨gb2, ob, xb, hb, _, hxb, hcb⟩ := (He.out.2.2.2.2.1.below HRW.out).2 k hlt
            obtain rfl : xa = xb := by have := HQ.out k (.inl hkj); rw [hxa, hxb] at this; exact Option.some.inj this
            subst ha hb
            clear hxa hxb
            go_wp2
            go_quiet (fail)
            go_wp2
            go_roundw
            case rel => exact ⟨k + 1, by omega, by go_num, by first | exact HRW.out | exact below_drewN HRW.out _⟩
            case measure => simp [intOf]; omega
        · have hI : ¬ (k : Int) < 8 := by omega
          have HD := Lib.hid (show Below wr.heap.size wr wr.drew from Below.drew (Below.refl _ wr))
          have HBD := Lib.hid (below_then HRW.out HD.out)
          obtain ⟨ga, oa, xa, ha, _, hxa, hca⟩ := (He.out.2.2.2.1.below HBD.out).2 j hj8
          obtain ⟨gb2, ob, xb, hb, _, hxb, hcb⟩ := (He.out.2.2.2.2.1.below HBD.out).2 j hj8
          subst ha hb
          have d0 : wr.drew.cell? ⟨w1.heap.size, 0, none⟩ = some (.slice (some ⟨gp, 0, none⟩) n c) := keptC HBD.out (He.out.2.2.2.2.2.2.2.cell 0)
          have d1 : wr.drew.cell? ⟨gp, 0, none⟩ = some (.slice (some ⟨gb, 0, none⟩) nb cb) := keptC HBD.out (by have h := He.out.2.2.2.2.2.1 0 _ (by rfl); simpa using h)
          have d2 : wr.drew.cell? ⟨wa.heap.size, 0, none⟩ = some (.slice (some ⟨ga, oa, none⟩) 8 k1) := keptC HBD.out (He.out.2.1.cell 0)
          have d3 : wr.drew.cell? ⟨wc.heap.size, 0, none⟩ = some (.slice (some ⟨gb2, ob, none⟩) 8 l1) := keptC HBD.out (He.out.1.cell 0)
          have hS := And.intro d0 (And.intro d1 (And.intro d2 (And.intro d3 (And.intro hca hcb))))
          have HSD := Lib.hid (He.out.2.2.2.2.2.2.1.below HBD.out)
          have HWD := Lib.hid (below_then He.out.2.2.1 HBD.out)
          clear d0 d1 d2 d3 hca hcb hx0 hy0
          have hnn0 : ¬ n = 0 := by omega
          have hnN : 0 < n := by omega
          cases hu : fu j
          · clear hxa hxb
            go_wp2
            refine wp_region_held_drew (S := fun w' => w'.cell? ⟨w1.heap.size, 0, none⟩ = some (.slice (some ⟨gp, 0, none⟩) n c) ∧ w'.cell? ⟨gp, 0, none⟩ = some (.slice (some ⟨gb, 0, none⟩) nb cb) ∧ w'.cell? ⟨wa.heap.size, 0, none⟩ = some (.slice (some ⟨ga, oa, none⟩) 8 k1) ∧ w'.cell? ⟨wc.heap.size, 0, none⟩ = some (.slice (some ⟨gb2, ob, none⟩) 8 l1) ∧ w'.cell? ⟨ga, oa + j, none⟩ = some (.int .i64 xa) ∧ w'.cell? ⟨gb2, ob + j, none⟩ = some (.int .i64 xb)) (by kernel_rfl) hS (fun hHeld => ?_)
            refine wpAnyH_take (i := 0) (v := .pointer (some ⟨w1.heap.size, 0, none⟩)) rfl (by kernel_rfl) (by kernel_rfl) (by kernel_rfl) (fun _ _ _ h => h) (Or.inl ⟨by rfl, (by intro w' hSw; (try dsimp only at hSw); go_simp)⟩) (by assumption) ?_
            try simp only [Act.put, List.getElem_toArray, List.getElem_cons_zero, List.setIfInBounds_toArray, List.set_cons_zero, List.set_cons_succ]
            refine wpAnyH_take (i := 1) (v := .slice (some ⟨gp, 0, none⟩) n c) rfl (by kernel_rfl) (by kernel_rfl) (by kernel_rfl) (fun _ _ _ h => h) (Or.inl ⟨by rfl, (by intro w' hSw; (try dsimp only at hSw); go_simp)⟩) (by assumption) ?_
            try simp only [Act.put, List.getElem_toArray, List.getElem_cons_zero, List.getElem_cons_succ, List.setIfInBounds_toArray, List.set_cons_zero, List.set_cons_succ]
            refine wpAnyH_take (i := 2) (v := .pointer (some ⟨gp, 0, none⟩)) rfl (by kernel_rfl) (by kernel_rfl) (by kernel_rfl) (fun _ _ _ h => h) (Or.inl ⟨by rfl, (by intro w' hSw; (try dsimp only at hSw); go_simp)⟩) (by assumption) ?_
            try simp only [Act.put, List.getElem_toArray, List.getElem_cons_zero, List.getElem_cons_succ, List.setIfInBounds_toArray, List.set_cons_zero, List.set_cons_succ]
            refine wpAnyH_take (i := 3) (v := .pointer (some ⟨gp, 0, none⟩)) rfl (by kernel_rfl) (by kernel_rfl) (by kernel_rfl) (fun _ _ _ h => h) (Or.inl ⟨by rfl, (by intro w' hSw; (try dsimp only at hSw); go_simp)⟩) (by assumption) ?_
            try simp only [Act.put, List.getElem_toArray, List.getElem_cons_zero, List.getElem_cons_succ, List.setIfInBounds_toArray, List.set_cons_zero, List.set_cons_succ]
            refine wpAnyH_take (i := 4) (v := .slice (some ⟨gb, 0, none⟩) nb cb) rfl (by kernel_rfl) (by kernel_rfl) (by kernel_rfl) (fun _ _ _ h => h) (Or.inl ⟨by rfl, (by intro w' hSw; (try dsimp only at hSw); go_simp)⟩) (by assumption) ?_
            try simp only [Act.put, List.getElem_toArray, List.getElem_cons_zero, List.getElem_cons_succ, List.setIfInBounds_toArray, List.set_cons_zero, List.set_cons_succ]
            refine wpAnyH_take (i := 6) (v := .int .i64 j) rfl (by kernel_rfl) (by kernel_rfl) (by kernel_rfl) (fun _ _ _ h => h) (Or.inl ⟨by rfl, (by intro w' hSw; (try dsimp only at hSw); go_simp)⟩) (by assumption) ?_
            try simp only [Act.put, List.getElem_toArray, List.getElem_cons_zero, List.getElem_cons_succ, List.setIfInBounds_toArray, List.set_cons_zero, List.set_cons_succ]
            refine wpAnyH_ready (rs := [5]) (by kernel_rfl) (by simp) ?_
            refine AllReadyH.cons rfl (fun K hK => ?_) AllReadyH.nil
            rw [if_pos (by kernel_rfl)]
            go_simp
            go_at_call 15
            refine (impl_mustwrite (some ⟨gb, 0, none⟩) nb cb t9.b hnb20 hbc _ HSD.out fu HFM.out.2).mono ?_
            rintro e wu ⟨au, nu, cu, rfl, hownu, hbu⟩
            have HQU := Lib.hid (has_any wu au nu cu _ (j : Int) false (by have h1 := own_len hownu; have h2 := lst_len fu 8; omega) (Row.of_own hownu) (by rw [dec_lst hj8]; exact hu))
            have HRS := Lib.hid (below_then HWD.out hbu)
            refine hK.out _ _ (kept6 hbu hS) (fun hHeld5 => ?_)
            clear hK K
            try simp only [Act.put, List.getElem_toArray, List.getElem_cons_zero, List.getElem_cons_succ, List.setIfInBounds_toArray, List.set_cons_zero, List.set_cons_succ]
            refine wpAnyH_ready (rs := [7]) (by kernel_rfl) (by simp) ?_
            refine AllReadyH.cons rfl (fun K hK => ?_) AllReadyH.nil
            rw [if_pos (by kernel_rfl)]
            go_simp
            go_at_call 17
            refine (HQU.out).mono ?_
            rintro e wz ⟨rfl, rfl⟩
            refine hK.out _ _ (kept6 hbu hS) (fun hHeld7 => ?_)
            clear hK K
            try simp only [Act.put, List.getElem_toArray, List.getElem_cons_zero, List.getElem_cons_succ, List.setIfInBounds_toArray, List.set_cons_zero, List.set_cons_succ]
            refine wpAnyH_take (i := 8) (v := .bool true) rfl (by kernel_rfl) (by kernel_rfl) (by kernel_rfl) (fun _ _ _ h => h) (Or.inl ⟨by rfl, (by intro w' hSw; (try dsimp only at hSw); go_simp)⟩) (by assumption) ?_
            try simp only [Act.put, List.getElem_toArray, List.getElem_cons_zero, List.getElem_cons_succ, List.setIfInBounds_toArray, List.set_cons_zero, List.set_cons_succ]
            refine wpAnyH_take (i := 9) (v := .bool true) rfl (by kernel_rfl) (by kernel_rfl) (by kernel_rfl) (fun _ _ _ h => h) (Or.inl ⟨by rfl, (by intro w' hSw; (try dsimp only at hSw); go_simp)⟩) (by assumption) ?_
            try simp only [Act.put, List.getElem_toArray, List.getElem_cons_zero, List.getElem_cons_succ, List.setIfInBounds_toArray, List.set_cons_zero, List.set_cons_succ]
            refine wpAnyH_take (i := 10) (v := undef) rfl (by kernel_rfl) (by kernel_rfl) (by kernel_rfl) (fun _ _ _ h => h) (Or.inr ⟨by kernel_rfl, rfl⟩) (by assumption) ?_
            try simp only [Act.put, List.getElem_toArray, List.getElem_cons_zero, List.getElem_cons_succ, List.setIfInBounds_toArray, List.set_cons_zero, List.set_cons_succ]
            refine wpAnyH_take (i := 11) (v := undef) rfl (by kernel_rfl) (by kernel_rfl) (by kernel_rfl) (fun _ _ _ h => h) (Or.inr ⟨by kernel_rfl, rfl⟩) (by assumption) ?_
            try simp only [Act.put, List.getElem_toArray, List.getElem_cons_zero, List.getElem_cons_succ, List.setIfInBounds_toArray, List.set_cons_zero, List.set_cons_succ]
            refine wpAnyH_take (i := 12) (v := undef) rfl (by kernel_rfl) (by kernel_rfl) (by kernel_rfl) (fun _ _ _ h => h) (Or.inr ⟨by kernel_rfl, rfl⟩) (by assumption) ?_
            try simp only [Act.put, List.getElem_toArray, List.getElem_cons_zero, List.getElem_cons_succ, List.setIfInBounds_toArray, List.set_cons_zero, List.set_cons_succ]
            refine wpAnyH_take (i := 13) (v := undef) rfl (by kernel_rfl) (by kernel_rfl) (by kernel_rfl) (fun _ _ _ h => h) (Or.inr ⟨by kernel_rfl, rfl⟩) (by assumption) ?_
            try simp only [Act.put, List.getElem_toArray, List.getElem_cons_zero, List.getElem_cons_succ, List.setIfInBounds_toArray, List.set_cons_zero, List.set_cons_succ]
            refine wpAnyH_take (i := 14) (v := undef) rfl (by kernel_rfl) (by kernel_rfl) (by kernel_rfl) (fun _ _ _ h => h) (Or.inr ⟨by kernel_rfl, rfl⟩) (by assumption) ?_
            try simp only [Act.put, List.getElem_toArray, List.getElem_cons_zero, List.getElem_cons_succ, List.setIfInBounds_toArray, List.set_cons_zero, List.set_cons_succ]
            refine wpAnyH_take (i := 15) (v := undef) rfl (by kernel_rfl) (by kernel_rfl) (by kernel_rfl) (fun _ _ _ h => h) (Or.inr ⟨by kernel_rfl, rfl⟩) (by assumption) ?_
            try simp only [Act.put, List.getElem_toArray, List.getElem_cons_zero, List.getElem_cons_succ, List.setIfInBounds_toArray, List.set_cons_zero, List.set_cons_succ]
            refine wpAnyH_take (i := 16) (v := undef) rfl (by kernel_rfl) (by kernel_rfl) (by kernel_rfl) (fun _ _ _ h => h) (Or.inr ⟨by kernel_rfl, rfl⟩) (by assumption) ?_
            try simp only [Act.put, List.getElem_toArray, List.getElem_cons_zero, List.getElem_cons_succ, List.setIfInBounds_toArray, List.set_cons_zero, List.set_cons_succ]
            refine wpAnyH_take (i := 17) (v := undef) rfl (by kernel_rfl) (by kernel_rfl) (by kernel_rfl) (fun _ _ _ h => h) (Or.inr ⟨by kernel_rfl, rfl⟩) (by assumption) ?_
            try simp only [Act.put, List.getElem_toArray, List.getElem_cons_zero, List.getElem_cons_succ, List.setIfInBounds_toArray, List.set_cons_zero, List.set_cons_succ]
            refine wpAnyH_take (i := 18) (v := undef) rfl (by kernel_rfl) (by kernel_rfl) (by kernel_rfl) (fun _ _ _ h => h) (Or.inr ⟨by kernel_rfl, rfl⟩) (by assumption) ?_
            try simp only [Act.put, List.getElem_toArray, List.getElem_cons_zero, List.getElem_cons_succ, List.setIfInBounds_toArray, List.set_cons_zero, List.set_cons_succ]
            refine wpAnyH_take (i := 19) (v := undef) rfl (by kernel_rfl) (by kernel_rfl) (by kernel_rfl) (fun _ _ _ h => h) (Or.inr ⟨by kernel_rfl, rfl⟩) (by assumption) ?_
            try simp only [Act.put, List.getElem_toArray, List.getElem_cons_zero, List.getElem_cons_succ, List.setIfInBounds_toArray, List.set_cons_zero, List.set_cons_succ]
            refine wpAnyH_take (i := 20) (v := undef) rfl (by kernel_rfl) (by kernel_rfl) (by kernel_rfl) (fun _ _ _ h => h) (Or.inr ⟨by kernel_rfl, rfl⟩) (by assumption) ?_
            try simp only [Act.put, List.getElem_toArray, List.getElem_cons_zero, List.getElem_cons_succ, List.setIfInBounds_toArray, List.set_cons_zero, List.set_cons_succ]
            refine wpAnyH_take (i := 21) (v := .bool true) rfl (by kernel_rfl) (by kernel_rfl) (by kernel_rfl) (fun _ _ _ h => h) (Or.inl ⟨by rfl, (by intro w' hSw; (try dsimp only at hSw); go_simp)⟩) (by assumption) ?_
            try simp only [Act.put, List.getElem_toArray, List.getElem_cons_zero, List.getElem_cons_succ, List.setIfInBounds_toArray, List.set_cons_zero, List.set_cons_succ]
            refine wpAnyH_take (i := 22) (v := .bool true) rfl (by kernel_rfl) (by kernel_rfl) (by kernel_rfl) (fun _ _ _ h => h) (Or.inl ⟨by rfl, (by intro w' hSw; (try dsimp only at hSw); go_simp)⟩) (by assumption) ?_
            try simp only [Act.put, List.getElem_toArray, List.getElem_cons_zero, List.getElem_cons_succ, List.setIfInBounds_toArray, List.set_cons_zero, List.set_cons_succ]
            refine wpAnyH_done (by kernel_rfl) ?_ _
            go_wp2
            go_ret
            exact ⟨rfl, HRS.out⟩
          · obtain rfl : xa = xb := by
              have := HQ.out j (.inr (by have := ((HFM.out.2 j hj8).1 hu).2; rw [hnb]; exact this))
              rw [hxa, hxb] at this; exact Option.some.inj this
            clear hxa hxb
            go_wp2
            refine wp_region_held_drew (S := fun w' => w'.cell? ⟨w1.heap.size, 0, none⟩ = some (.slice (some ⟨gp, 0, none⟩) n c) ∧ w'.cell? ⟨gp, 0, none⟩ = some (.slice (some ⟨gb, 0, none⟩) nb cb) ∧ w'.cell? ⟨wa.heap.size, 0, none⟩ = some (.slice (some ⟨ga, oa, none⟩) 8 k1) ∧ w'.cell? ⟨wc.heap.size, 0, none⟩ = some (.slice (some ⟨gb2, ob, none⟩) 8 l1) ∧ w'.cell? ⟨ga, oa + j, none⟩ = some (.int .i64 xa) ∧ w'.cell? ⟨gb2, ob + j, none⟩ = some (.int .i64 xa)) (by kernel_rfl) hS (fun hHeld => ?_)
            refine wpAnyH_take (i := 0) (v := .pointer (some ⟨w1.heap.size, 0, none⟩)) rfl (by kernel_rfl) (by kernel_rfl) (by kernel_rfl) (fun _ _ _ h => h) (Or.inl ⟨by rfl, (by intro w' hSw; (try dsimp only at hSw); go_simp)⟩) (by assumption) ?_
            try simp only [Act.put, List.getElem_toArray, List.getElem_cons_zero, List.setIfInBounds_toArray, List.set_cons_zero, List.set_cons_succ]
            refine wpAnyH_take (i := 1) (v := .slice (some ⟨gp, 0, none⟩) n c) rfl (by kernel_rfl) (by kernel_rfl) (by kernel_rfl) (fun _ _ _ h => h) (Or.inl ⟨by rfl, (by intro w' hSw; (try dsimp only at hSw); go_simp)⟩) (by assumption) ?_
            try simp only [Act.put, List.getElem_toArray, List.getElem_cons_zero, List.getElem_cons_succ, List.setIfInBounds_toArray, List.set_cons_zero, List.set_cons_succ]
            refine wpAnyH_take (i := 2) (v := .pointer (some ⟨gp, 0, none⟩)) rfl (by kernel_rfl) (by kernel_rfl) (by kernel_rfl) (fun _ _ _ h => h) (Or.inl ⟨by rfl, (by intro w' hSw; (try dsimp only at hSw); go_simp)⟩) (by assumption) ?_
            try simp only [Act.put, List.getElem_toArray, List.getElem_cons_zero, List.getElem_cons_succ, List.setIfInBounds_toArray, List.set_cons_zero, List.set_cons_succ]
            refine wpAnyH_take (i := 3) (v := .pointer (some ⟨gp, 0, none⟩)) rfl (by kernel_rfl) (by kernel_rfl) (by kernel_rfl) (fun _ _ _ h => h) (Or.inl ⟨by rfl, (by intro w' hSw; (try dsimp only at hSw); go_simp)⟩) (by assumption) ?_
            try simp only [Act.put, List.getElem_toArray, List.getElem_cons_zero, List.getElem_cons_succ, List.setIfInBounds_toArray, List.set_cons_zero, List.set_cons_succ]
            refine wpAnyH_take (i := 4) (v := .slice (some ⟨gb, 0, none⟩) nb cb) rfl (by kernel_rfl) (by kernel_rfl) (by kernel_rfl) (fun _ _ _ h => h) (Or.inl ⟨by rfl, (by intro w' hSw; (try dsimp only at hSw); go_simp)⟩) (by assumption) ?_
            try simp only [Act.put, List.getElem_toArray, List.getElem_cons_zero, List.getElem_cons_succ, List.setIfInBounds_toArray, List.set_cons_zero, List.set_cons_succ]
            refine wpAnyH_take (i := 6) (v := .int .i64 j) rfl (by kernel_rfl) (by kernel_rfl) (by kernel_rfl) (fun _ _ _ h => h) (Or.inl ⟨by rfl, (by intro w' hSw; (try dsimp only at hSw); go_simp)⟩) (by assumption) ?_
            try simp only [Act.put, List.getElem_toArray, List.getElem_cons_zero, List.getElem_cons_succ, List.setIfInBounds_toArray, List.set_cons_zero, List.set_cons_succ]
            refine wpAnyH_ready (rs := [5]) (by kernel_rfl) (by simp) ?_
            refine AllReadyH.cons rfl (fun K hK => ?_) AllReadyH.nil
            rw [if_pos (by kernel_rfl)]
            go_simp
            go_at_call 15
            refine (impl_mustwrite (some ⟨gb, 0, none⟩) nb cb t9.b hnb20 hbc _ HSD.out fu HFM.out.2).mono ?_
            rintro e wu ⟨au, nu, cu, rfl, hownu, hbu⟩
            have HQU := Lib.hid (has_any wu au nu cu _ (j : Int) true (by have h1 := own_len hownu; have h2 := lst_len fu 8; omega) (Row.of_own hownu) (by rw [dec_lst hj8]; exact hu))
            have HRS := Lib.hid (below_then HWD.out hbu)
            refine hK.out _ _ (kept6 hbu hS) (fun hHeld5 => ?_)
            clear hK K
            try simp only [Act.put, List.getElem_toArray, List.getElem_cons_zero, List.getElem_cons_succ, List.setIfInBounds_toArray, List.set_cons_zero, List.set_cons_succ]
            refine wpAnyH_ready (rs := [7]) (by kernel_rfl) (by simp) ?_
            refine AllReadyH.cons rfl (fun K hK => ?_) AllReadyH.nil
            rw [if_pos (by kernel_rfl)]
            go_simp
            go_at_call 17
            refine (HQU.out).mono ?_
            rintro e wz ⟨rfl, rfl⟩
            refine hK.out _ _ (kept6 hbu hS) (fun hHeld7 => ?_)
            clear hK K
            try simp only [Act.put, List.getElem_toArray, List.getElem_cons_zero, List.getElem_cons_succ, List.setIfInBounds_toArray, List.set_cons_zero, List.set_cons_succ]
            refine wpAnyH_take (i := 8) (v := .bool false) rfl (by kernel_rfl) (by kernel_rfl) (by kernel_rfl) (fun _ _ _ h => h) (Or.inl ⟨by rfl, (by intro w' hSw; (try dsimp only at hSw); go_simp)⟩) (by assumption) ?_
            try simp only [Act.put, List.getElem_toArray, List.getElem_cons_zero, List.getElem_cons_succ, List.setIfInBounds_toArray, List.set_cons_zero, List.set_cons_succ]
            refine wpAnyH_take (i := 9) (v := .bool false) rfl (by kernel_rfl) (by kernel_rfl) (by kernel_rfl) (fun _ _ _ h => h) (Or.inl ⟨by rfl, (by intro w' hSw; (try dsimp only at hSw); go_simp)⟩) (by assumption) ?_
            try simp only [Act.put, List.getElem_toArray, List.getElem_cons_zero, List.getElem_cons_succ, List.setIfInBounds_toArray, List.set_cons_zero, List.set_cons_succ]
            refine wpAnyH_take (i := 10) (v := .pointer (some ⟨wa.heap.size, 0, none⟩)) rfl (by kernel_rfl) (by kernel_rfl) (by kernel_rfl) (fun _ _ _ h => h) (Or.inl ⟨by rfl, (by intro w' hSw; (try dsimp only at hSw); go_simp)⟩) (by assumption) ?_
            try simp only [Act.put, List.getElem_toArray, List.getElem_cons_zero, List.getElem_cons_succ, List.setIfInBounds_toArray, List.set_cons_zero, List.set_cons_succ]
            refine wpAnyH_take (i := 11) (v := .slice (some ⟨ga, oa, none⟩) 8 k1) rfl (by kernel_rfl) (by kernel_rfl) (by kernel_rfl) (fun _ _ _ h => h) (Or.inl ⟨by rfl, (by intro w' hSw; (try dsimp only at hSw); go_simp)⟩) (by assumption) ?_
            try simp only [Act.put, List.getElem_toArray, List.getElem_cons_zero, List.getElem_cons_succ, List.setIfInBounds_toArray, List.set_cons_zero, List.set_cons_succ]
            refine wpAnyH_take (i := 12) (v := .int .i64 j) rfl (by kernel_rfl) (by kernel_rfl) (by kernel_rfl) (fun _ _ _ h => h) (Or.inl ⟨by rfl, (by intro w' hSw; (try dsimp only at hSw); go_simp)⟩) (by assumption) ?_
            try simp only [Act.put, List.getElem_toArray, List.getElem_cons_zero, List.getElem_cons_succ, List.setIfInBounds_toArray, List.set_cons_zero, List.set_cons_succ]
            refine wpAnyH_take (i := 13) (v := .pointer (some ⟨ga, oa + j, none⟩)) rfl (by kernel_rfl) (by kernel_rfl) (by kernel_rfl) (fun _ _ _ h => h) (Or.inl ⟨by rfl, (by intro w' hSw; (try dsimp only at hSw); go_simp)⟩) (by assumption) ?_
            try simp only [Act.put, List.getElem_toArray, List.getElem_cons_zero, List.getElem_cons_succ, List.setIfInBounds_toArray, List.set_cons_zero, List.set_cons_succ]
            refine wpAnyH_take (i := 14) (v := .int .i64 xa) rfl (by kernel_rfl) (by kernel_rfl) (by kernel_rfl) (fun _ _ _ h => h) (Or.inl ⟨by rfl, (by intro w' hSw; (try dsimp only at hSw); go_simp)⟩) (by assumption) ?_
            try simp only [Act.put, List.getElem_toArray, List.getElem_cons_zero, List.getElem_cons_succ, List.setIfInBounds_toArray, List.set_cons_zero, List.set_cons_succ]
            refine wpAnyH_take (i := 15) (v := .pointer (some ⟨wc.heap.size, 0, none⟩)) rfl (by kernel_rfl) (by kernel_rfl) (by kernel_rfl) (fun _ _ _ h => h) (Or.inl ⟨by rfl, (by intro w' hSw; (try dsimp only at hSw); go_simp)⟩) (by assumption) ?_
            try simp only [Act.put, List.getElem_toArray, List.getElem_cons_zero, List.getElem_cons_succ, List.setIfInBounds_toArray, List.set_cons_zero, List.set_cons_succ]
            refine wpAnyH_take (i := 16) (v := .slice (some ⟨gb2, ob, none⟩) 8 l1) rfl (by kernel_rfl) (by kernel_rfl) (by kernel_rfl) (fun _ _ _ h => h) (Or.inl ⟨by rfl, (by intro w' hSw; (try dsimp only at hSw); go_simp)⟩) (by assumption) ?_
            try simp only [Act.put, List.getElem_toArray, List.getElem_cons_zero, List.getElem_cons_succ, List.setIfInBounds_toArray, List.set_cons_zero, List.set_cons_succ]
            refine wpAnyH_take (i := 17) (v := .int .i64 j) rfl (by kernel_rfl) (by kernel_rfl) (by kernel_rfl) (fun _ _ _ h => h) (Or.inl ⟨by rfl, (by intro w' hSw; (try dsimp only at hSw); go_simp)⟩) (by assumption) ?_
            try simp only [Act.put, List.getElem_toArray, List.getElem_cons_zero, List.getElem_cons_succ, List.setIfInBounds_toArray, List.set_cons_zero, List.set_cons_succ]
            refine wpAnyH_take (i := 18) (v := .pointer (some ⟨gb2, ob + j, none⟩)) rfl (by kernel_rfl) (by kernel_rfl) (by kernel_rfl) (fun _ _ _ h => h) (Or.inl ⟨by rfl, (by intro w' hSw; (try dsimp only at hSw); go_simp)⟩) (by assumption) ?_
            try simp only [Act.put, List.getElem_toArray, List.getElem_cons_zero, List.getElem_cons_succ, List.setIfInBounds_toArray, List.set_cons_zero, List.set_cons_succ]
            refine wpAnyH_take (i := 19) (v := .int .i64 xa) rfl (by kernel_rfl) (by kernel_rfl) (by kernel_rfl) (fun _ _ _ h => h) (Or.inl ⟨by rfl, (by intro w' hSw; (try dsimp only at hSw); go_simp)⟩) (by assumption) ?_
            try simp only [Act.put, List.getElem_toArray, List.getElem_cons_zero, List.getElem_cons_succ, List.setIfInBounds_toArray, List.set_cons_zero, List.set_cons_succ]
            refine wpAnyH_take (i := 20) (v := .bool true) rfl (by kernel_rfl) (by kernel_rfl) (by kernel_rfl) (fun _ _ _ h => h) (Or.inl ⟨by rfl, (by intro w' hSw; (try dsimp only at hSw); go_simp)⟩) (by assumption) ?_
            try simp only [Act.put, List.getElem_toArray, List.getElem_cons_zero, List.getElem_cons_succ, List.setIfInBounds_toArray, List.set_cons_zero, List.set_cons_succ]
            refine wpAnyH_take (i := 21) (v := .bool true) rfl (by kernel_rfl) (by kernel_rfl) (by kernel_rfl) (fun _ _ _ h => h) (Or.inl ⟨by rfl, (by intro w' hSw; (try dsimp only at hSw); go_simp)⟩) (by assumption) ?_
            try simp only [Act.put, List.getElem_toArray, List.getElem_cons_zero, List.getElem_cons_succ, List.setIfInBounds_toArray, List.set_cons_zero, List.set_cons_succ]
            refine wpAnyH_take (i := 22) (v := .bool true) rfl (by kernel_rfl) (by kernel_rfl) (by kernel_rfl) (fun _ _ _ h => h) (Or.inl ⟨by rfl, (by intro w' hSw; (try dsimp only at hSw); go_simp)⟩) (by assumption) ?_
            try simp only [Act.put, List.getElem_toArray, List.getElem_cons_zero, List.getElem_cons_succ, List.setIfInBounds_toArray, List.set_cons_zero, List.set_cons_succ]
            refine wpAnyH_done (by kernel_rfl) ?_ _
            go_wp2
            go_ret
            exact ⟨rfl, HRS.out⟩
    · have Q1 := Lib.hid (has_any w6 ay ny cy _ (j : Int) true (by omega) H6.out.2.2.2.2.2.2.2 (by rw [dec_lst hj8]; exact hf))
      refine Lib.hid ?_
      go_wp2_with (go_at_call 17; (with_reducible refine (Q1.out).mono ?_); rintro e w2 ⟨rfl, rfl⟩)
      go_ret
      exact ⟨rfl, H6.out.2.2.2.2.2.1⟩

/-! ### THE ROW's STEP: WRITTEN OUT: LEAVE IT -/
set_option maxRecDepth 100000 in
theorem lifted (os : Os) (started : os.Started) (H : Type) (enc : TypeId × Value → H) :
    ReturnsInHanded {} Tryz.checked os 4 .any (Rows.fnReadsFirstSpec.pre6 enc Tryz.prog Tryz.f4 Rows.fnReadsFirstRow.domain false) (Rows.fnReadsFirstSpec.post enc Tryz.prog Tryz.f4 false true false false) := by
  refine returnsInHanded_of_change (C := Tryz.checked) own started (by kernel_rfl) Tryz.func4
    (ChangeSpec.witness6 (enc := enc) (C := Tryz.checked) false ⟨#[], #[.slice none 0 0], []⟩ 8 (by kernel_rfl) (by kernel_rfl) (by kernel_rfl) (by kernel_rfl)) ?_
  intro W base args ds gs before hval0 hW hcnd _
  have hval : ∀ (j : Nat) t v, Tryz.f4.params[j]? = some t → args[j]? = some v → Value.okWide Tryz.prog W .any base t v := hval0
  have hW' := hW
  obtain ⟨p, q, hA0, hV, rfl, hfz, hnd⟩ := hW
  have hA : DataW.TrodAll enc Tryz.prog W 0 (fun _ => true) true Tryz.f4.params.toList args.toList ds p := hA0
  rw [Tryz.params4] at hA hval
  obtain ⟨v0, vs0, d0, ds0, p0, q0, hargs, rfl, rfl, h0, r0⟩ := trodAll_cons hA
  obtain ⟨rfl, rfl, rfl⟩ := trodAll_nil r0
  obtain rfl : args = #[v0] := by cases args; simp_all
  obtain ⟨rfl, rfl⟩ := trodVars_none hV
  obtain ⟨a0, len0, cap0, rfl⟩ := okWide_slice Tryz.underlying22 (hval 0 22 v0 rfl rfl)
  have k0 := h0
  have lt0 : ∀ x ∈ p0, x.block < W.heap.size := by obtain ⟨m, hm⟩ := k0; exact DataW.trod_lt m _ _ _ hm
  obtain ⟨z0, w0⟩ : ∃ zs, IsRow .u8 W a0 len0 cap0 zs := by
    obtain ⟨fuel, hf⟩ := h0
    rcases open_ints Tryz.underlying22 Tryz.underlying5 (by kernel_rfl) hf with ⟨hcs, _⟩ | ⟨x, l, c, zs, hcs, _, hl, hm, hz, _, hcell, hwz⟩
    · simp [Value.cells] at hcs
      obtain ⟨rfl, rfl, rfl⟩ := hcs
      exact ⟨[], .inl ⟨rfl, rfl, rfl, rfl⟩⟩
    · simp [Value.cells] at hcs
      obtain ⟨rfl, rfl, rfl⟩ := hcs
      exact ⟨zs, .inr ⟨_, rfl, hl, hm, by simpa using hz, hcell, hwz⟩⟩
  clear hA0 hval0
  refine (walk a0 len0 cap0 z0 W w0).mono fun e W' ⟨he, bel⟩ => ?_
  subst he
  exact ⟨_, rfl, _, _, _, [], _, [], hW', trodAll_mk1 (shut_bool Tryz.underlying4 _), (trodAll_cons_mk (Below.trod laidOut (by kernel_rfl) (of_decide_eq_true (by kernel_rfl)) k0 bel lt0) trodAll_mk0), rfl, bel.frame _, fun h => by cases h⟩

theorem over : Rows.fnReadsFirstRow.holds Tryz.pinned (OpenSpec.ofChange Rows.fnReadsFirstSpec) :=
  OpenClaim.holds_of_wide 4 Tryz.f4 rfl rfl rfl rfl rfl rfl rfl ⟨rfl, rfl, rfl, rfl, rfl⟩ rfl rfl rfl rfl rfl (by kernel_rfl) Tryz.func4 (by kernel_rfl)
    (of_decide_eq_true (by kernel_rfl)) (by unfold Func.isWrapper; first | (rw [if_pos (by decide +kernel)]; kernel_rfl) | (rw [if_neg (by decide +kernel)]; exact ⟨rfl, rfl⟩))
    (fun os started H enc _ => lifted os started H enc)

/-- ████ THE STATEMENT ████ -/
theorem proved : Rows.FnReadsFirstSaid := over
#print axioms proved
end Go.Proofs.YtekdnhhmiabngaaGreat.fnReadsFirst
