/- For every input the law FnUnlogged returns true and leaves its argument as it was; no condition. -/
import Derived.Test.YtekdnhhmiabngaaGreatRows
import Derived.WalkKit
import Derived.ProofKit
import Derived.OpenShut
import Derived.ShutString
import Derived.ChangeOld
import Derived.Below
import Derived.Test.YtekdnhhmiabngaaGreatGHub5
import Derived.Test.YtekdnhhmiabngaaGreatGHub6
import Derived.Test.YtekdnhhmiabngaaGreatGHub13
import Derived.Test.YtekdnhhmiabngaaGreatGHub24
import Derived.Test.YtekdnhhmiabngaaGreatGHub25
import Derived.Test.YtekdnhhmiabngaaGreatGHub26
import Derived.Test.YtekdnhhmiabngaaGreatGHub29
import Derived.Test.YtekdnhhmiabngaaGreatGHub33
import Derived.Test.YtekdnhhmiabngaaGreatGHub34
import Derived.Test.YtekdnhhmiabngaaGreatGHub37
import Derived.Test.YtekdnhhmiabngaaGreatGHub35
import Derived.Test.YtekdnhhmiabngaaGreatGHub2
import Derived.Test.YtekdnhhmiabngaaGreatGHub10
import Derived.Test.YtekdnhhmiabngaaGreatGHub38
import Derived.Test.YtekdnhhmiabngaaGreatGHub43
import Derived.Test.YtekdnhhmiabngaaGreatGHub42
import Derived.Deep.RegionHeld3
import Derived.Deep.RegionLaw
import Derived.Deep.AppendLies
namespace Go.Proofs.YtekdnhhmiabngaaGreat.fnUnlogged
open Go.ChangeShapes Go.WideShapes Go.ChangeAt Go.RowKit
open Go.ChangeMaps (open_string shut_string)
set_option linter.unusedVariables false

theorem own : ownKnob Tryz.prog.godebug = none := by kernel_rfl
theorem laidOut : laidOutB Tryz.prog = true := by kernel_rfl

/-- WHAT THE WALK IS TOLD OF A SLICE OF INTEGERS THAT CAME IN: it is nil; or it leads to a row of 'cap' cells, the numbers 'zs' (the first 'len' are its elements, the rest its spare room), each fitting its kind. -/
def IsRow (k : IntKind) (w : World) (a : Option Addr) (len cap : Nat) (zs : List Int) : Prop :=
  (a = none ∧ len = 0 ∧ cap = 0 ∧ zs = []) ∨
  ∃ x, a = some x ∧ len ≤ cap ∧ cap ≤ maxLen ∧ zs.length = cap ∧ (∀ i, i < zs.length → w.cell? (x.add i) = some (.int k (zs.getD i 0))) ∧ ∀ n ∈ zs, (Lit.int k n).wf = true

open Go.Proofs.YtekdnhhmiabngaaGreat.row Go.Proofs.YtekdnhhmiabngaaGreat.val Go.Proofs.YtekdnhhmiabngaaGreat.expr Go.Proofs.YtekdnhhmiabngaaGreat.stm Go.Proofs.YtekdnhhmiabngaaGreat.cur Go.Proofs.YtekdnhhmiabngaaGreat.blk Go.Proofs.YtekdnhhmiabngaaGreat.prg Go.Proofs.YtekdnhhmiabngaaGreat.exe Go.Proofs.YtekdnhhmiabngaaGreat.sets
theorem rng_below {w w' : World} {g o : Nat} {cs : List Value} (h : w.rangeAt g o cs) (hg : g < w.heap.size) (hb : Below w.heap.size w w') : w'.rangeAt g o cs := fun j v hj => (hb.cell (p := ⟨g, o + j, none⟩) hg).trans (h j v hj)
theorem sizes_drawn {P : List Tk} (hl : P.length ≤ 3) (h : ∀ t ∈ P, TkOk t) : Sizes P := ⟨by omega, fun t ht => by have := (h t ht).2.1; omega⟩
theorem prg_drawn {P : List Tk} (h1 : 1 ≤ P.length) (hl : P.length ≤ 3) (h : ∀ t ∈ P, TkOk t) : IsPrg P := ⟨h1, by omega, fun t ht => ⟨(h t ht).1, (h t ht).2.2⟩⟩
theorem rdg_val {R : List Int} (h : RdgIn R) : allV R = true := (allV_iff R).2 fun q hq => by have := h q hq; exact isVal_in (by omega) (by omega)
theorem made_ati (w : World) (k B : Nat) (hk : w.heap.size = k) (hB : B ≤ k) (e : TypeId) : (w.alloc (.cells #[] e)).ownsRow B e 1 (.slice (some ⟨k, 0, none⟩) 0 0) 0 [] := by
  subst hk; exact World.ownsRow_made w #[] 0 hB (Nat.zero_le _) rfl
theorem own_slice1 {w : World} {B : Nat} {ty : TypeId} {v : Value} {n : Nat} {xs : List Value} (h : w.ownsRow B ty 1 v n xs) : ∃ ad cap, v = .slice ad n cap := by
  rcases h.2 with ⟨e, e0⟩ | ⟨g, c, _, e, _⟩
  · exact ⟨_, _, by rw [e, e0]⟩
  · exact ⟨_, _, e⟩
theorem news_int {w w' : World} {b off n : Nat} {A : List Int} (h : Row w (some ⟨b, off, none⟩) n A) (hb : Below w.heap.size w w') : ∀ j u, (ivs A)[j]? = some u → w'.cell? ((⟨b, off, none⟩ : Addr).add j) = some u := by
  intro j u hj
  have hjl : j < n := by have := (List.getElem?_eq_some_iff.1 hj).1; rw [ivs_length] at this; have := h.1; omega
  obtain ⟨b', off', x, e, hlt, hx, hc⟩ := h.2 j hjl
  cases e
  have h3 : u = .int .i64 x := by
    unfold ivs at hj
    rw [List.getElem?_map, hx] at hj
    exact (Option.some.inj hj).symm
  subst h3
  rw [Addr.add_mid, hb.cell (p := ⟨b, off + j, none⟩) hlt]; exact hc
theorem ivs_one1 (U : List Int) : ∀ u ∈ ivs U, u.oneCell' = true := by
  intro u hu
  unfold ivs at hu
  obtain ⟨x, _, rfl⟩ := List.mem_map.1 hu
  rfl
theorem put1 {w : World} {B g n c m : Nat} {P : List Int} {v : Int} (h : w.ownsRow B 3 1 (.slice (some ⟨g, 0, none⟩) n c) n (ivs P)) : (w.setCell ⟨g, m, none⟩ (.int .i64 v)).ownsRow B 3 1 (.slice (some ⟨g, 0, none⟩) n c) n (ivs (P.set m v)) := by
  have := (h.stored m (.int .i64 v)).1
  rw [ivs_set] at this; exact this
theorem eff_ext {A B : Eff} (h1 : A.V = B.V) (h2 : A.S = B.S) (h3 : A.N = B.N) (h4 : A.U = B.U) : A = B := by
  cases A; cases B; cases h1; cases h2; cases h3; cases h4; rfl
theorem dec_lst {f : Nat → Bool} {k : Nat} (hk : k < 8) : decide ((k : Int) ∈ lst f 8) = f k := by
  rw [Bool.eq_iff_iff, decide_eq_true_eq, lst_mem]; exact ⟨fun h => h.2, fun h => ⟨hk, h⟩⟩
set_option maxHeartbeats 8000000 in
set_option maxRecDepth 100000 in
theorem walk (a0 : Option Addr) (len0 cap0 : Nat) (z0 : List Int) (w : World) (w0 : IsRow .u8 w a0 len0 cap0 z0) :
    Calls Tryz.prog 5 #[.slice a0 len0 cap0] w fun e w' => e = .returned (.bool true) ∧ Below w.heap.size w w' := by
  obtain ⟨i0, hi, hz0, hz1, hz2⟩ := info_parts row.infoInt
  have HB : Hid (∀ i : Nat, i < len0 → ∃ (b off : Nat) (v : Int), a0 = some ⟨b, off, none⟩ ∧ w.cell? ⟨b, off + i, none⟩ = some (.int .u8 v)) := by
    intro i hi
    rcases w0 with ⟨_, h0, _⟩ | ⟨x, rfl, hl, _, hz, hcell, _⟩
    · omega
    · obtain ⟨b, off, rfl, hc⟩ := ints_at hcell (by omega)
      exact ⟨b, off, _, rfl, hc i (by omega)⟩
  have HB2 : Hid (∀ w1 : World, Below w.heap.size w w1 → ∀ i : Nat, i < len0 → ∃ (b off : Nat) (v : Int), a0 = some ⟨b, off, none⟩ ∧ w1.cell? ⟨b, off + i, none⟩ = some (.int .u8 v)) := by
    intro w1 hb1 i hi
    obtain ⟨b, off, v, ha, hv⟩ := HB.out i hi
    exact ⟨b, off, v, ha, (hb1.cell (World.block_lt_of_cell? w _ hv)).trans hv⟩
  clear w0
  by_cases hbig : (1048576 : Int) < len0
  · go_enter Tryz.func5, Tryz.ntmps5
    go_wp2_with (go_at_call 10; refine (big_yes _ _ _ _ hbig).mono ?_; rintro e w1 ⟨rfl, rfl⟩)
    go_ret
    exact ⟨rfl, Below.refl _ _⟩
  · have hsm : (len0 : Int) ≤ 1048576 := by omega
    clear hbig
    go_enter Tryz.func5, Tryz.ntmps5
    go_wp2_with (first
      | (go_at_call 10; refine (big_no _ _ _ _ hsm).mono ?_; rintro e w1 ⟨rfl, rfl⟩)
      | (go_at_call 11; refine (drawprogram_any _ _ _ _ hsm HB.out).mono ?_; rintro e w1 ⟨ad, n, c, P, rfl, hn1, hn3, hnc, HOK, HR, hb1⟩; refine Hid.out ?_))
    have HA1 := Lib.hid (And.intro (Box.new w1 #[.slice none 0 0] 26) (below_new w1 (.cells #[.slice none 0 0] 26)))
    obtain ⟨gp, t, gb, nb, cb, rfl, _, hgp, ht, hrg, hbc, _, hrow⟩ := HR.out.2 0 (by omega)
    have hPl : P.length = n := HR.out.1
    have HB1 := Lib.hid (And.intro hb1 (And.intro HR.out.row (And.intro hrg hrow)))
    have hIP : IsPrg P := prg_drawn (by omega) (by omega) HOK.out
    have HSZ := Lib.hid (sizes_drawn (show P.length ≤ 3 by omega) HOK.out)
    have hTO := HOK.out t (List.mem_of_getElem? ht)
    have hnb : t.b.length = nb := hrow.1
    have hnbI : (nb : Int) ≤ 20 := by have := hTO.2.1; omega
    clear hb1 HR hrg hrow
    refine Lib.hid ?_
    go_wp2_with ((refine wpList_store_box rfl 26 _ _ rfl w1.heap.size _ _ HA1.out.1 #[.slice (some ⟨gp, 0, none⟩) n c] rfl rfl rfl (by kernel_rfl) (by simp [Value.oneCell']) ?_); intro w2 hx2 hg2; refine Hid.out ?_)
    have hb2 : Below w1.heap.size w1 w2 := HA1.out.2.grown hg2 HA1.out.2.size (fun j hj => by cases hj; exact Nat.le_refl _)
    have H2 := Lib.hid (And.intro hx2 (And.intro (HB1.out.2.1.below hb2) (And.intro (rng_below HB1.out.2.2.1 hgp hb2) (And.intro (HB1.out.2.2.2.below hb2) (below_then HB1.out.1 hb2)))))
    clear hx2 hg2 hb2 HA1 HB1
    refine Lib.hid ?_
    go_wp2_with (go_at_call 12; refine (vars_any _ _ _ _ hsm (HB2.out _ H2.out.2.2.2.2)).mono ?_; rintro e w3 ⟨av, cv, V, rfl, HVL, HVV, hown3, hb3⟩; refine Hid.out ?_)
    have hvok : varsOk V = true := (varsOk_iff V).2 ⟨HVL.out, HVV.out⟩
    have hcv : 8 ≤ cv := own_le hown3
    have H3 := Lib.hid (And.intro hown3 (And.intro (H2.out.1.below hb3) (And.intro (H2.out.2.1.below hb3) (And.intro (rng_below H2.out.2.2.1 (Nat.lt_of_lt_of_le hgp (Nat.le_of_lt H2.out.1.lt)) hb3) (And.intro (H2.out.2.2.2.1.below hb3) (below_then H2.out.2.2.2.2 hb3))))))
    have hgp3 : gp < w3.heap.size := Nat.lt_of_lt_of_le hgp (Nat.le_trans (Nat.le_of_lt H2.out.1.lt) hb3.size)
    clear hown3 hb3 H2 HVL HVV
    refine Lib.hid ?_
    go_wp2_with (go_at_call 13; refine (readings_any _ _ _ _ hsm (HB2.out _ H3.out.2.2.2.2.2)).mono ?_; rintro e w4 ⟨vr, R, rfl, hR1, hR9, HRG, hown4, hb4⟩; refine Hid.out ?_)
    obtain ⟨gr, cr, rfl, _, _, _⟩ := own_atI hown4 (k := 0) (by omega)
    have hcr : R.length ≤ cr := own_le hown4
    have hRv : allV R = true := rdg_val HRG.out
    have H4 := Lib.hid (And.intro (H3.out.1.kept (grown_below hb4 none) (by cases av <;> simp [Value.ownBlock])) (And.intro (H3.out.2.1.below hb4) (And.intro (H3.out.2.2.1.below hb4) (And.intro (rng_below H3.out.2.2.2.1 hgp3 hb4) (And.intro (H3.out.2.2.2.2.1.below hb4) (And.intro (below_then H3.out.2.2.2.2.2 hb4) hown4))))))
    have hgp4 : gp < w4.heap.size := Nat.lt_of_lt_of_le hgp3 hb4.size
    have hRI : (R.length : Int) ≤ 1048576 := by omega
    clear hown4 hb4 H3
    refine Lib.hid ?_
    go_wp2_with (go_at_call 19; refine (places_any _ _ _ _ hsm (HB2.out _ H4.out.2.2.2.2.2.1)).mono ?_; rintro e w5 ⟨vX, X, rfl, hXl, HXX, hownX, hb5⟩; refine Hid.out ?_)
    obtain ⟨gx, cx, rfl, _, _, _⟩ := own_atI hownX (k := 0) (by omega)
    obtain ⟨gv, _, e1, _, _, _⟩ := own_atI H4.out.1 (k := 0) (by omega)
    injection e1 with e1 e2 e3
    subst e1
    clear e2 e3
    have H5 := Lib.hid (And.intro ((Row.of_own H4.out.1).below hb5) (And.intro (H4.out.2.1.below hb5) (And.intro (H4.out.2.2.1.below hb5) (And.intro (rng_below H4.out.2.2.2.1 hgp4 hb5) (And.intro (H4.out.2.2.2.2.1.below hb5) (And.intro (below_then H4.out.2.2.2.2.2.1 hb5) (And.intro ((Row.of_own H4.out.2.2.2.2.2.2).below hb5) (Row.of_own hownX))))))))
    have hgp5 : gp < w5.heap.size := Nat.lt_of_lt_of_le hgp4 hb5.size
    clear hownX hb5 H4
    refine Lib.hid ?_
    obtain ⟨t9, T, ht9, hTA⟩ := taskAt_ex (j := 0) (Y := R) hIP hvok hRv (by omega)
    obtain rfl : t9 = t := by rw [ht] at ht9; exact (Option.some.inj ht9).symm
    obtain ⟨r, E, hE⟩ := effIs_ex P V R 0
    obtain rfl := (hE.at hTA).1
    have hV8 := ((varsOk_iff V).1 hvok).1
    have hVv := ((varsOk_iff V).1 hvok).2
    have hbk : IsBlk t9.b := hTO.1
    have hnb20 : (nb : Int) ≤ 1048576 := by omega
    have hS3 : E.S.length ≤ 3000 := by
      have h1 := (hE.at hTA).2
      have h2 := hTA.small (listSrc R)
      rw [h1]; simp only [effOf]; omega
    have hn0 : (0 : Int) < n := by omega
    have c0 : w5.cell? ⟨w1.heap.size, 0, none⟩ = some (.slice (some ⟨gp, 0, none⟩) n c) := H5.out.2.1.cell 0
    have HE := Lib.hid hE
    have HTA := Lib.hid hTA
    have HRG5 := Lib.hid (show w5.rangeAt gp 0 (tkC (some ⟨gb, 0, none⟩) nb cb t9) from by simpa using H5.out.2.2.2.1)
    obtain ⟨fm, hfm⟩ := is_ex (fun v => IsBlk t9.b ∧ MayTo t9.b nb v)
    obtain ⟨fl, hfl⟩ := is_ex (LogP t9)
    have HFM := Lib.hid (And.intro hfm hfl)
    have HA5 := Lib.hid (And.intro (Box.new w5 zeroTk 34) (below_new w5 (.cells zeroTk 34)))
    clear hE hTA ht9 hfm hfl
    go_wp2_with (first
      | (refine wpList_load_mid rfl 34 _ rfl gp 0 rfl (tkC (some ⟨gb, 0, none⟩) nb cb t9) _ HRG5.out Tryz.underlying34 rfl (by kernel_rfl) ?_)
      | ((refine wpList_store_box rfl 34 _ _ rfl w5.heap.size _ _ HA5.out.1 #[.slice (some ⟨gb, 0, none⟩) nb cb, .int .i64 t9.o, .int .i64 t9.x, .int .i64 t9.y] rfl rfl rfl (by kernel_rfl) (by simp [Value.oneCell']) ?_); intro w6 hx6 hg6; refine Hid.out ?_))
    have hb6 : Below w5.heap.size w5 w6 := HA5.out.2.grown hg6 HA5.out.2.size (fun j hj => by cases hj; exact Nat.le_refl _)
    have H6 := Lib.hid (And.intro hx6 (And.intro (H5.out.1.below hb6) (And.intro (H5.out.2.1.below hb6) (And.intro (H5.out.2.2.1.below hb6) (And.intro (H5.out.2.2.2.2.1.below hb6) (And.intro (below_then H5.out.2.2.2.2.2.1 hb6) (And.intro (H5.out.2.2.2.2.2.2.1.below hb6) (H5.out.2.2.2.2.2.2.2.below hb6))))))))
    have d0 : w6.cell? ⟨w5.heap.size, 0, none⟩ = some (.slice (some ⟨gb, 0, none⟩) nb cb) := hx6.cell 0
    clear hx6 hg6 hb6 H5 c0
    refine Lib.hid ?_
    go_wp2_with (go_at_call 14; (with_reducible refine (impl_maywrite (some ⟨gb, 0, none⟩) nb cb t9.b hnb20 hbc _ H6.out.2.2.2.2.1 fm HFM.out.1).mono ?_); rintro e w7 ⟨ay, ny, cy, rfl, hown7, hb7⟩; refine Hid.out ?_)
    have hny : (ny : Int) ≤ 8 := by have h1 := own_len hown7; have h2 := lst_len fm 8; omega
    have H7 := Lib.hid (And.intro (H6.out.1.below hb7) (And.intro (H6.out.2.1.below hb7) (And.intro (H6.out.2.2.1.below hb7) (And.intro (H6.out.2.2.2.1.below hb7) (And.intro (H6.out.2.2.2.2.1.below hb7) (And.intro (below_then H6.out.2.2.2.2.2.1 hb7) (And.intro (H6.out.2.2.2.2.2.2.1.below hb7) (And.intro (H6.out.2.2.2.2.2.2.2.below hb7) (Row.of_own hown7)))))))))
    clear hown7 hb7 d0 H6
    refine Lib.hid ?_
    go_wp2_with (first
      | (refine wpList_load_row rfl 34 _ rfl w5.heap.size rfl _ _ _ _ H7.out.1 Tryz.underlying34 rfl (by kernel_rfl) ?_)
      | (go_at_call 22; (with_reducible refine (impl_mustlog (some ⟨gb, 0, none⟩) nb cb t9 hnb20 hbc _ H7.out.2.2.2.2.1 fl HFM.out.2).mono ?_); rintro e w8 ⟨au, nu, cu, rfl, hown8, hb8⟩; refine Hid.out ?_))
    have hnu : (nu : Int) ≤ 8 := by have h1 := own_len hown8; have h2 := lst_len fl 8; omega
    have H8 := Lib.hid (And.intro (H7.out.2.1.below hb8) (And.intro (H7.out.2.2.1.below hb8) (And.intro (H7.out.2.2.2.1.below hb8) (And.intro (below_then H7.out.2.2.2.2.2.1 hb8) (And.intro (H7.out.2.2.2.2.2.2.1.below hb8) (And.intro (H7.out.2.2.2.2.2.2.2.1.below hb8) (And.intro (H7.out.2.2.2.2.2.2.2.2.below hb8) (Row.of_own hown8))))))))
    clear hown8 hb8 H7
    have HNV := Lib.hid (news_int H8.out.1 (below_new w8 (.cells #[] 3)))
    refine Lib.hid ?_
    go_wp2_with (at_builtin; refine wpList_append_own_at _ rfl _ _ 28 rfl w8.heap.size 3 i0 (.int .i64 0) 1 8 Tryz.underlying28 hi hz0 hz1 hz2 rfl (by decide) _ _ _ rfl (made_ati w8 w8.heap.size w8.heap.size rfl (Nat.le_refl _) _) ⟨gv, 0, none⟩ 8 cv (ivs V) rfl (by rw [ivs_length, hV8]) HNV.out (ivs_one1 V) (by unfold maxLen; omega) (by omega) (by simp) ?_; intro v9 w9 hown hgrow _ hat; refine Hid.out ?_)
    rw [Nat.zero_add, List.nil_append] at hown
    have hbA : Below w8.heap.size w8 w9 := (below_new w8 (.cells #[] 3)).grown hgrow (by simp) (fun k hk => by cases hk; exact Nat.le_refl _)
    obtain ⟨a9, c9, rfl⟩ := own_slice1 hown
    have H9 := Lib.hid (And.intro hown hbA)
    clear hown hgrow hat hbA HNV
    refine Lib.hid ?_
    go_wp2
    go_loopw [11] (fun i wr => ∃ (k : Nat) (L : List Int), k ≤ 8 ∧ i = .int .i64 k ∧ Hid (Below w8.heap.size w8 wr ∧ wr.ownsRow w8.heap.size 3 1 (.slice a9 8 c9) 8 (ivs L) ∧ (∀ x ∈ L, isVal x = true) ∧ ∀ v : Nat, ¬ (v < 8 ∧ fm v = true ∧ fl v = false) → V[v]? = L[v]?)) (fun i _ => 8 - (intOf i).toNat)
    case atStart => exact ⟨0, V, Nat.zero_le _, rfl, H9.out.2, H9.out.1, hVv, fun _ _ => rfl⟩
    case round =>
      obtain ⟨k, L, hk, rfl, HRW⟩ := hrel
      have HRM := Lib.hid (H8.out.2.2.2.2.2.2.1.below HRW.out.1)
      have HRU := Lib.hid (H8.out.2.2.2.2.2.2.2.below HRW.out.1)
      by_cases hlt : k < 8
      · have hI : (k : Int) < 8 := by omega
        cases hm : fm k
        · have Q1 := Lib.hid (has_any wr ay ny cy _ (k : Int) false (by omega) HRM.out (by rw [dec_lst hlt]; exact hm))
          go_wp2_with (go_at_call 17; (with_reducible refine (Q1.out).mono ?_); rintro e w2 ⟨rfl, rfl⟩)
          go_roundw
          case rel => exact ⟨k + 1, L, by omega, by go_num, HRW.out⟩
          case measure => simp [intOf]; omega
        · have Q1 := Lib.hid (has_any wr ay ny cy _ (k : Int) true (by omega) HRM.out (by rw [dec_lst hlt]; exact hm))
          cases hl : fl k
          · have Q2 := Lib.hid (has_any wr au nu cu _ (k : Int) false (by omega) HRU.out (by rw [dec_lst hlt]; exact hl))
            obtain ⟨g9, X9, rfl, hg0, hg1, hX9, hfz⟩ := own_store HRW.out.2.1 hlt
            obtain ⟨bx, ox, x, ex, _, hx, hcx⟩ := (H8.out.2.2.2.2.2.1.below HRW.out.1).2 k (by omega)
            obtain ⟨rfl, rfl⟩ : bx = gx ∧ ox = 0 := by injection ex with ex; injection ex with h1 h2; exact ⟨h1.symm, h2.symm⟩
            have hx' := HXX.out x (List.mem_of_getElem? hx)
            have hk12 : (k : Int) < 12 := by omega
            have hLx := isVal_in (n := x - 5000) (by omega) (by omega)
            simp only [Nat.zero_add] at hcx
            clear ex hx
            go_wp2_with (first
              | (go_at_call 17; (first | (with_reducible refine (Q1.out).mono ?_) | (with_reducible refine (Q2.out).mono ?_)); rintro e w2 ⟨rfl, rfl⟩))
            go_roundw
            case rel =>
              refine ⟨k + 1, L.set k (x - 5000), by omega, by go_num, HRW.out.1.grown (grown_setCell _ g9 k _) HRW.out.1.size (fun j hj => by cases hj; exact hg0), put1 HRW.out.2.1, fun y hy => ?_, fun v hv => ?_⟩
              · rcases List.mem_or_eq_of_mem_set hy with h | h
                · exact HRW.out.2.2.1 y h
                · rw [h]; exact hLx
              · rw [List.getElem?_set_ne (by rintro rfl; exact hv ⟨hlt, hm, hl⟩)]
                exact HRW.out.2.2.2 v hv
            case measure => simp [intOf]; omega
          · have Q2 := Lib.hid (has_any wr au nu cu _ (k : Int) true (by omega) HRU.out (by rw [dec_lst hlt]; exact hl))
            go_wp2_with (first
              | (go_at_call 17; (first | (with_reducible refine (Q1.out).mono ?_) | (with_reducible refine (Q2.out).mono ?_)); rintro e w2 ⟨rfl, rfl⟩))
            go_roundw
            case rel => exact ⟨k + 1, L, by omega, by go_num, HRW.out⟩
            case measure => simp [intOf]; omega
      · have hI : ¬ (k : Int) < 8 := by omega
        have hL8 : L.length = 8 := own_len HRW.out.2.1
        have hLok : varsOk L = true := (varsOk_iff L).2 ⟨hL8, HRW.out.2.2.1⟩
        have hc9 : 8 ≤ c9 := own_le HRW.out.2.1
        obtain ⟨r2, E2, hE2⟩ := effIs_ex P L R 0
        have hKF : ∀ v : Nat, (v < 8 ∧ fm v = true ∧ fl v = false) → ¬ FirstP t9 v ∧ WAt t9.b t9.b.length v := fun v ⟨h1, h2, h3⟩ => unlogged HTA.out.blk (by have := (HFM.out.1 v h1).1 h2; rw [hnb]; exact this.2) (fun h => by have := (HFM.out.2 v h1).2 h; rw [h3] at this; cases this)
        obtain ⟨_, rfl, q1, q2, q3, q4, q5, q6⟩ := eff_agree HTA.out hLok (K := fun v => v < 8 ∧ fm v = true ∧ fl v = false) (fun v hv => (hKF v hv).1) HRW.out.2.2.2 HE.out hE2
        obtain rfl : E = E2 := eff_ext (List.ext_getElem? fun v => q6 v (by
          rcases Classical.em (v < 8 ∧ fm v = true ∧ fl v = false) with h | h
          · exact .inr (hKF v h).2
          · exact .inl h)) q1 q2 q3
        have HE2 := Lib.hid hE2
        have HR9 := Lib.hid (And.intro (H8.out.1.below HRW.out.1) (And.intro (H8.out.2.1.below HRW.out.1) (And.intro (H8.out.2.2.1.below HRW.out.1) (And.intro (below_then H8.out.2.2.2.1 HRW.out.1) (And.intro (H8.out.2.2.2.2.1.below HRW.out.1) (Row.of_own HRW.out.2.1))))))
        clear hE2 hKF q1 q2 q3 q5 q6 HRM HRU HRW
        go_wp2_with (first
          | (refine wpList_load_row rfl 26 _ rfl w1.heap.size rfl _ _ _ _ HR9.out.2.1 Tryz.underlying26 rfl (by kernel_rfl) ?_)
          | (go_at_call 16; (with_reducible refine (impl_taskeffect (some ⟨gp, 0, none⟩) n c P HSZ.out hnc _ HR9.out.2.2.1 (some ⟨gv, 0, none⟩) 8 cv V (by decide) hcv HR9.out.1 (some ⟨gr, 0, none⟩) R.length cr R hRI hcr HR9.out.2.2.2.2.1 0 true E HE.out).mono ?_); rintro e wa ⟨a1, m1, k1, a2, m2, k2, rfl, hm, hba⟩; refine Hid.out ?_))
        obtain rfl : m1 = 8 := by have := own_len hm.1; omega
        have hm2 := own_len hm.2.1
        have Ha := Lib.hid (And.intro (Box.new wa zero4E 37) (And.intro (below_new wa (.cells zero4E 37)) (And.intro (HR9.out.2.1.below hba) (And.intro (HR9.out.2.2.1.below hba) (And.intro (below_then HR9.out.2.2.2.1 hba) (And.intro (HR9.out.2.2.2.2.1.below hba) (And.intro (HR9.out.2.2.2.2.2.below hba) (And.intro (Row.of_own hm.1) (Row.of_own hm.2.1)))))))))
        clear hm hba HR9
        refine Lib.hid ?_
        go_wp2_with ((refine wpList_store_box rfl 37 _ _ rfl wa.heap.size _ _ Ha.out.1 #[.slice a1 8 k1, .slice a2 m2 k2, .int .i64 E.N, .int .i64 E.U] rfl rfl rfl (by kernel_rfl) (by simp [Value.oneCell']) ?_); intro wb hxb hgb; refine Hid.out ?_)
        have hbb : Below wa.heap.size wa wb := Ha.out.2.1.grown hgb Ha.out.2.1.size (fun j hj => by cases hj; exact Nat.le_refl _)
        have Hb := Lib.hid (And.intro hxb (And.intro (Ha.out.2.2.1.below hbb) (And.intro (Ha.out.2.2.2.1.below hbb) (And.intro (below_then Ha.out.2.2.2.2.1 hbb) (And.intro (Ha.out.2.2.2.2.2.1.below hbb) (And.intro (Ha.out.2.2.2.2.2.2.1.below hbb) (And.intro (Ha.out.2.2.2.2.2.2.2.1.below hbb) (Ha.out.2.2.2.2.2.2.2.2.below hbb))))))))
        clear hxb hgb hbb Ha
        refine Lib.hid ?_
        go_wp2_with (first
          | (refine wpList_load_row rfl 26 _ rfl w1.heap.size rfl _ _ _ _ Hb.out.2.1 Tryz.underlying26 rfl (by kernel_rfl) ?_)
          | (go_at_call 16; (with_reducible refine (impl_taskeffect (some ⟨gp, 0, none⟩) n c P HSZ.out hnc _ Hb.out.2.2.1 a9 8 c9 L (by decide) hc9 Hb.out.2.2.2.2.2.1 (some ⟨gr, 0, none⟩) R.length cr R hRI hcr Hb.out.2.2.2.2.1 0 true E HE2.out).mono ?_); rintro e wc ⟨b1, n1, l1, b2, n2, l2, rfl, hm', hbc'⟩; refine Hid.out ?_))
        obtain rfl : n1 = 8 := by have := own_len hm'.1; omega
        obtain rfl : n2 = m2 := by have := own_len hm'.2.1; omega
        have Hc := Lib.hid (And.intro (Box.new wc zero4E 37) (And.intro (below_new wc (.cells zero4E 37)) (And.intro (Hb.out.1.below hbc') (And.intro (below_then Hb.out.2.2.2.1 hbc') (And.intro (Hb.out.2.2.2.2.2.2.1.below hbc') (And.intro (Hb.out.2.2.2.2.2.2.2.below hbc') (And.intro (Row.of_own hm'.1) (Row.of_own hm'.2.1))))))))
        clear hm' hbc' Hb
        refine Lib.hid ?_
        go_wp2_with ((refine wpList_store_box rfl 37 _ _ rfl wc.heap.size _ _ Hc.out.1 #[.slice b1 8 l1, .slice b2 n2 l2, .int .i64 E.N, .int .i64 E.U] rfl rfl rfl (by kernel_rfl) (by simp [Value.oneCell']) ?_); intro wd hxd hgd; refine Hid.out ?_)
        have hbd : Below wc.heap.size wc wd := Hc.out.2.1.grown hgd Hc.out.2.1.size (fun j hj => by cases hj; exact Nat.le_refl _)
        have Hd := Lib.hid (And.intro hxd (And.intro (Hc.out.2.2.1.below hbd) (And.intro (below_then Hc.out.2.2.2.1 hbd) (And.intro (Hc.out.2.2.2.2.1.below hbd) (And.intro (Hc.out.2.2.2.2.2.1.below hbd) (And.intro (Hc.out.2.2.2.2.2.2.1.below hbd) (Hc.out.2.2.2.2.2.2.2.below hbd)))))))
        have hn2 : (n2 : Int) ≤ 1048576 := by omega
        clear hxd hgd hbd Hc
        refine Lib.hid ?_
        have x0 : wd.cell? ⟨wa.heap.size, 0, none⟩ = some (.slice a1 8 k1) := Hd.out.2.1.cell 0
        have x1 : wd.cell? ⟨wa.heap.size, 1, none⟩ = some (.slice a2 n2 k2) := Hd.out.2.1.cell 1
        have x2 : wd.cell? ⟨wa.heap.size, 2, none⟩ = some (.int .i64 E.N) := Hd.out.2.1.cell 2
        have x3 : wd.cell? ⟨wa.heap.size, 3, none⟩ = some (.int .i64 E.U) := Hd.out.2.1.cell 3
        have y0 : wd.cell? ⟨wc.heap.size, 0, none⟩ = some (.slice b1 8 l1) := Hd.out.1.cell 0
        have y1 : wd.cell? ⟨wc.heap.size, 1, none⟩ = some (.slice b2 n2 l2) := Hd.out.1.cell 1
        have y2 : wd.cell? ⟨wc.heap.size, 2, none⟩ = some (.int .i64 E.N) := Hd.out.1.cell 2
        have y3 : wd.cell? ⟨wc.heap.size, 3, none⟩ = some (.int .i64 E.U) := Hd.out.1.cell 3
        go_wp2_with (first
          | (go_at_call 23; (with_reducible refine (same_eff _ E a1 8 k1 a2 n2 k2 b1 l1 b2 l2 (by decide) hn2 Hd.out.2.2.2.1 Hd.out.2.2.2.2.1 Hd.out.2.2.2.2.2.1 Hd.out.2.2.2.2.2.2).mono ?_); rintro e we ⟨rfl, hbe⟩; refine Hid.out ?_))
        have HFI := Lib.hid (below_then Hd.out.2.2.1 hbe)
        clear hbe
        refine Lib.hid ?_
        go_wp2
        go_ret
        exact ⟨rfl, HFI.out⟩

/-! ### THE ROW's STEP: WRITTEN OUT: LEAVE IT -/
set_option maxRecDepth 100000 in
theorem lifted (os : Os) (started : os.Started) (H : Type) (enc : TypeId × Value → H) :
    ReturnsInHanded {} Tryz.checked os 5 .any (Rows.fnUnloggedSpec.pre6 enc Tryz.prog Tryz.f5 Rows.fnUnloggedRow.domain false) (Rows.fnUnloggedSpec.post enc Tryz.prog Tryz.f5 false true false false) := by
  refine returnsInHanded_of_change (C := Tryz.checked) own started (by kernel_rfl) Tryz.func5
    (ChangeSpec.witness6 (enc := enc) (C := Tryz.checked) false ⟨#[], #[.slice none 0 0], []⟩ 8 (by kernel_rfl) (by kernel_rfl) (by kernel_rfl) (by kernel_rfl)) ?_
  intro W base args ds gs before hval0 hW hcnd _
  have hval : ∀ (j : Nat) t v, Tryz.f5.params[j]? = some t → args[j]? = some v → Value.okWide Tryz.prog W .any base t v := hval0
  have hW' := hW
  obtain ⟨p, q, hA0, hV, rfl, hfz, hnd⟩ := hW
  have hA : DataW.TrodAll enc Tryz.prog W 0 (fun _ => true) true Tryz.f5.params.toList args.toList ds p := hA0
  rw [Tryz.params5] at hA hval
  obtain ⟨v0, vs0, d0, ds0, p0, q0, hargs, rfl, rfl, h0, r0⟩ := trodAll_cons hA
  obtain ⟨rfl, rfl, rfl⟩ := trodAll_nil r0
  obtain rfl : args = #[v0] := by cases args; simp_all
  obtain ⟨rfl, rfl⟩ := trodVars_none hV
  obtain ⟨a0, len0, cap0, rfl⟩ := okWide_slice Tryz.underlying22 (hval 0 22 v0 rfl rfl)
  have k0 := h0
  have lt0 : ∀ x ∈ p0, x.block < W.heap.size := by obtain ⟨m, hm⟩ := k0; exact DataW.trod_lt m _ _ _ hm
  obtain ⟨z0, w0⟩ : ∃ zs, IsRow .u8 W a0 len0 cap0 zs := by
    obtain ⟨fuel, hf⟩ := h0
    rcases open_ints Tryz.underlying22 Tryz.underlying5 (by kernel_rfl) hf with ⟨hcs, _⟩ | ⟨x, l, c, zs, hcs, _, hl, hm, hz, _, hcell, hwz⟩
    · simp [Value.cells] at hcs
      obtain ⟨rfl, rfl, rfl⟩ := hcs
      exact ⟨[], .inl ⟨rfl, rfl, rfl, rfl⟩⟩
    · simp [Value.cells] at hcs
      obtain ⟨rfl, rfl, rfl⟩ := hcs
      exact ⟨zs, .inr ⟨_, rfl, hl, hm, by simpa using hz, hcell, hwz⟩⟩
  clear hA0 hval0
  refine (walk a0 len0 cap0 z0 W w0).mono fun e W' ⟨he, bel⟩ => ?_
  subst he
  exact ⟨_, rfl, _, _, _, [], _, [], hW', trodAll_mk1 (shut_bool Tryz.underlying4 _), (trodAll_cons_mk (Below.trod laidOut (by kernel_rfl) (of_decide_eq_true (by kernel_rfl)) k0 bel lt0) trodAll_mk0), rfl, bel.frame _, fun h => by cases h⟩

theorem over : Rows.fnUnloggedRow.holds Tryz.pinned (OpenSpec.ofChange Rows.fnUnloggedSpec) :=
  OpenClaim.holds_of_wide 5 Tryz.f5 rfl rfl rfl rfl rfl rfl rfl ⟨rfl, rfl, rfl, rfl, rfl⟩ rfl rfl rfl rfl rfl (by kernel_rfl) Tryz.func5 (by kernel_rfl)
    (of_decide_eq_true (by kernel_rfl)) (by unfold Func.isWrapper; first | (rw [if_pos (by decide +kernel)]; kernel_rfl) | (rw [if_neg (by decide +kernel)]; exact ⟨rfl, rfl⟩))
    (fun os started H enc _ => lifted os started H enc)

/-- ████ THE STATEMENT ████ -/
theorem proved : Rows.FnUnloggedSaid := over
#print axioms proved
end Go.Proofs.YtekdnhhmiabngaaGreat.fnUnlogged
