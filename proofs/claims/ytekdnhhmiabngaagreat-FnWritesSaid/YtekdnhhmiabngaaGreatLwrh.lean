/- For every input the law FnWrites returns true and leaves its argument as it was; no condition. -/
import Derived.Test.YtekdnhhmiabngaaGreatRows
import Derived.WalkKit
import Derived.ProofKit
import Derived.OpenShut
import Derived.ShutString
import Derived.ChangeOld
import Derived.Below
import Derived.Test.YtekdnhhmiabngaaGreatGHub5
import Derived.Test.YtekdnhhmiabngaaGreatGHub6
import Derived.Test.YtekdnhhmiabngaaGreatGHub13
import Derived.Test.YtekdnhhmiabngaaGreatGHub24
import Derived.Test.YtekdnhhmiabngaaGreatGHub25
import Derived.Test.YtekdnhhmiabngaaGreatGHub26
import Derived.Test.YtekdnhhmiabngaaGreatGHub29
import Derived.Test.YtekdnhhmiabngaaGreatGHub33
import Derived.Test.YtekdnhhmiabngaaGreatGHub34
import Derived.Test.YtekdnhhmiabngaaGreatGHub37
import Derived.Test.YtekdnhhmiabngaaGreatGHub35
import Derived.Test.YtekdnhhmiabngaaGreatGHub2
import Derived.Test.YtekdnhhmiabngaaGreatGHub10
import Derived.Test.YtekdnhhmiabngaaGreatGHub38
import Derived.Test.YtekdnhhmiabngaaGreatGHub43
import Derived.Test.YtekdnhhmiabngaaGreatGHub42
import Derived.Deep.RegionHeld3
import Derived.Deep.RegionLaw
import Derived.Deep.AppendLies
namespace Go.Proofs.YtekdnhhmiabngaaGreat.fnWrites
open Go.ChangeShapes Go.WideShapes Go.ChangeAt Go.RowKit
open Go.ChangeMaps (open_string shut_string)
set_option linter.unusedVariables false

theorem own : ownKnob Tryz.prog.godebug = none := by kernel_rfl
theorem laidOut : laidOutB Tryz.prog = true := by kernel_rfl

/-- WHAT THE WALK IS TOLD OF A SLICE OF INTEGERS THAT CAME IN: it is nil; or it leads to a row of 'cap' cells, the numbers 'zs' (the first 'len' are its elements, the rest its spare room), each fitting its kind. -/
def IsRow (k : IntKind) (w : World) (a : Option Addr) (len cap : Nat) (zs : List Int) : Prop :=
  (a = none ∧ len = 0 ∧ cap = 0 ∧ zs = []) ∨
  ∃ x, a = some x ∧ len ≤ cap ∧ cap ≤ maxLen ∧ zs.length = cap ∧ (∀ i, i < zs.length → w.cell? (x.add i) = some (.int k (zs.getD i 0))) ∧ ∀ n ∈ zs, (Lit.int k n).wf = true

open Go.Proofs.YtekdnhhmiabngaaGreat.row Go.Proofs.YtekdnhhmiabngaaGreat.val Go.Proofs.YtekdnhhmiabngaaGreat.expr Go.Proofs.YtekdnhhmiabngaaGreat.stm Go.Proofs.YtekdnhhmiabngaaGreat.cur Go.Proofs.YtekdnhhmiabngaaGreat.blk Go.Proofs.YtekdnhhmiabngaaGreat.prg Go.Proofs.YtekdnhhmiabngaaGreat.exe Go.Proofs.YtekdnhhmiabngaaGreat.sets
theorem rng_below {w w' : World} {g o : Nat} {cs : List Value} (h : w.rangeAt g o cs) (hg : g < w.heap.size) (hb : Below w.heap.size w w') : w'.rangeAt g o cs := fun j v hj => (hb.cell (p := ⟨g, o + j, none⟩) hg).trans (h j v hj)
theorem sizes_drawn {P : List Tk} (hl : P.length ≤ 3) (h : ∀ t ∈ P, TkOk t) : Sizes P := ⟨by omega, fun t ht => by have := (h t ht).2.1; omega⟩
theorem prg_drawn {P : List Tk} (h1 : 1 ≤ P.length) (hl : P.length ≤ 3) (h : ∀ t ∈ P, TkOk t) : IsPrg P := ⟨h1, by omega, fun t ht => ⟨(h t ht).1, (h t ht).2.2⟩⟩
theorem rdg_val {R : List Int} (h : RdgIn R) : allV R = true := (allV_iff R).2 fun q hq => by have := h q hq; exact isVal_in (by omega) (by omega)
theorem has_q (w : World) (a : Option Addr) (n cap : Nat) (T : List Int) (q : Int) (r : Bool) (hn : (n : Int) ≤ 1048576) (h : Row w a n T) (hr : decide (q ∈ T) = r) (m : Nat) :
    Calls Tryz.prog 17 #[.slice a n cap, .int .i64 q] (w.drewN m) fun e w' => e = .returned (.bool r) ∧ w' = w.drewN m :=
  (has_any (w.drewN m) a n cap T q r hn (h.drewN m) hr).mono fun _ _ ⟨h1, h2⟩ => ⟨h1, h2.symm⟩
theorem hasvar_q (w : World) (a : Option Addr) (n cap : Nat) (T : List Int) (q : Int) (r : Bool) (hn : (n : Int) ≤ 1048576) (h : Row w a n T) (hr : decide (q ∈ T) = r) (m : Nat) :
    Calls Tryz.prog 18 #[.slice a n cap, .int .i64 q] (w.drewN m) fun e w' => e = .returned (.bool r) ∧ w' = w.drewN m :=
  (impl_hasvar (w.drewN m) a n cap T q r hn (h.drewN m) hr).mono fun _ _ ⟨h1, h2⟩ => ⟨h1, h2.symm⟩
theorem dec_lst {f : Nat → Bool} {k : Nat} (hk : k < 8) : decide ((k : Int) ∈ lst f 8) = f k := by
  rw [Bool.eq_iff_iff, decide_eq_true_eq, lst_mem]; exact ⟨fun h => h.2, fun h => ⟨hk, h⟩⟩
set_option maxHeartbeats 8000000 in
set_option maxRecDepth 100000 in
theorem walk (a0 : Option Addr) (len0 cap0 : Nat) (z0 : List Int) (w : World) (w0 : IsRow .u8 w a0 len0 cap0 z0) :
    Calls Tryz.prog 3 #[.slice a0 len0 cap0] w fun e w' => e = .returned (.bool true) ∧ Below w.heap.size w w' := by
  obtain ⟨i0, hi, hz0, hz1, hz2⟩ := info_parts row.infoInt
  have HB : Hid (∀ i : Nat, i < len0 → ∃ (b off : Nat) (v : Int), a0 = some ⟨b, off, none⟩ ∧ w.cell? ⟨b, off + i, none⟩ = some (.int .u8 v)) := by
    intro i hi
    rcases w0 with ⟨_, h0, _⟩ | ⟨x, rfl, hl, _, hz, hcell, _⟩
    · omega
    · obtain ⟨b, off, rfl, hc⟩ := ints_at hcell (by omega)
      exact ⟨b, off, _, rfl, hc i (by omega)⟩
  have HB2 : Hid (∀ w1 : World, Below w.heap.size w w1 → ∀ i : Nat, i < len0 → ∃ (b off : Nat) (v : Int), a0 = some ⟨b, off, none⟩ ∧ w1.cell? ⟨b, off + i, none⟩ = some (.int .u8 v)) := by
    intro w1 hb1 i hi
    obtain ⟨b, off, v, ha, hv⟩ := HB.out i hi
    exact ⟨b, off, v, ha, (hb1.cell (World.block_lt_of_cell? w _ hv)).trans hv⟩
  clear w0
  by_cases hbig : (1048576 : Int) < len0
  · go_enter Tryz.func3, Tryz.ntmps3
    go_wp2_with (go_at_call 10; refine (big_yes _ _ _ _ hbig).mono ?_; rintro e w1 ⟨rfl, rfl⟩)
    go_ret
    exact ⟨rfl, Below.refl _ _⟩
  · have hsm : (len0 : Int) ≤ 1048576 := by omega
    clear hbig
    go_enter Tryz.func3, Tryz.ntmps3
    go_wp2_with (first
      | (go_at_call 10; refine (big_no _ _ _ _ hsm).mono ?_; rintro e w1 ⟨rfl, rfl⟩)
      | (go_at_call 11; refine (drawprogram_any _ _ _ _ hsm HB.out).mono ?_; rintro e w1 ⟨ad, n, c, P, rfl, hn1, hn3, hnc, HOK, HR, hb1⟩; refine Hid.out ?_))
    have HA1 := Lib.hid (And.intro (Box.new w1 #[.slice none 0 0] 26) (below_new w1 (.cells #[.slice none 0 0] 26)))
    obtain ⟨gp, t, gb, nb, cb, rfl, _, hgp, ht, hrg, hbc, _, hrow⟩ := HR.out.2 0 (by omega)
    have hPl : P.length = n := HR.out.1
    have HB1 := Lib.hid (And.intro hb1 (And.intro HR.out.row (And.intro hrg hrow)))
    have hIP : IsPrg P := prg_drawn (by omega) (by omega) HOK.out
    have HSZ := Lib.hid (sizes_drawn (show P.length ≤ 3 by omega) HOK.out)
    have hTO := HOK.out t (List.mem_of_getElem? ht)
    have hnb : t.b.length = nb := hrow.1
    have hnbI : (nb : Int) ≤ 20 := by have := hTO.2.1; omega
    clear hb1 HR hrg hrow
    refine Lib.hid ?_
    go_wp2_with ((refine wpList_store_box rfl 26 _ _ rfl w1.heap.size _ _ HA1.out.1 #[.slice (some ⟨gp, 0, none⟩) n c] rfl rfl rfl (by kernel_rfl) (by simp [Value.oneCell']) ?_); intro w2 hx2 hg2; refine Hid.out ?_)
    have hb2 : Below w1.heap.size w1 w2 := HA1.out.2.grown hg2 HA1.out.2.size (fun j hj => by cases hj; exact Nat.le_refl _)
    have H2 := Lib.hid (And.intro hx2 (And.intro (HB1.out.2.1.below hb2) (And.intro (rng_below HB1.out.2.2.1 hgp hb2) (And.intro (HB1.out.2.2.2.below hb2) (below_then HB1.out.1 hb2)))))
    clear hx2 hg2 hb2 HA1 HB1
    refine Lib.hid ?_
    go_wp2_with (go_at_call 12; refine (vars_any _ _ _ _ hsm (HB2.out _ H2.out.2.2.2.2)).mono ?_; rintro e w3 ⟨av, cv, V, rfl, HVL, HVV, hown3, hb3⟩; refine Hid.out ?_)
    have hvok : varsOk V = true := (varsOk_iff V).2 ⟨HVL.out, HVV.out⟩
    have hcv : 8 ≤ cv := own_le hown3
    have H3 := Lib.hid (And.intro hown3 (And.intro (H2.out.1.below hb3) (And.intro (H2.out.2.1.below hb3) (And.intro (rng_below H2.out.2.2.1 (Nat.lt_of_lt_of_le hgp (Nat.le_of_lt H2.out.1.lt)) hb3) (And.intro (H2.out.2.2.2.1.below hb3) (below_then H2.out.2.2.2.2 hb3))))))
    have hgp3 : gp < w3.heap.size := Nat.lt_of_lt_of_le hgp (Nat.le_trans (Nat.le_of_lt H2.out.1.lt) hb3.size)
    clear hown3 hb3 H2 HVL HVV
    refine Lib.hid ?_
    go_wp2_with (go_at_call 13; refine (readings_any _ _ _ _ hsm (HB2.out _ H3.out.2.2.2.2.2)).mono ?_; rintro e w4 ⟨vr, R, rfl, hR1, hR9, HRG, hown4, hb4⟩; refine Hid.out ?_)
    obtain ⟨gr, cr, rfl, _, _, _⟩ := own_atI hown4 (k := 0) (by omega)
    have hcr : R.length ≤ cr := own_le hown4
    have hRv : allV R = true := rdg_val HRG.out
    have H4 := Lib.hid (And.intro (H3.out.1.kept (grown_below hb4 none) (by cases av <;> simp [Value.ownBlock])) (And.intro (H3.out.2.1.below hb4) (And.intro (H3.out.2.2.1.below hb4) (And.intro (rng_below H3.out.2.2.2.1 hgp3 hb4) (And.intro (H3.out.2.2.2.2.1.below hb4) (And.intro (below_then H3.out.2.2.2.2.2 hb4) hown4))))))
    have hgp4 : gp < w4.heap.size := Nat.lt_of_lt_of_le hgp3 hb4.size
    have hRI : (R.length : Int) ≤ 1048576 := by omega
    clear hown4 hb4 H3
    refine Lib.hid ?_
    obtain ⟨t9, T, ht9, hTA⟩ := taskAt_ex (j := 0) (Y := R) hIP hvok hRv (by omega)
    obtain rfl : t9 = t := by rw [ht] at ht9; exact (Option.some.inj ht9).symm
    obtain ⟨r, E, hE⟩ := effIs_ex P V R 0
    have hEW := eff_writes (j := 0) hTA hE
    obtain rfl := hEW.1
    have hbk : IsBlk t9.b := hTO.1
    obtain ⟨fm, hfm⟩ := is_ex (fun v => IsBlk t9.b ∧ MayTo t9.b nb v)
    obtain ⟨fu, hfu⟩ := is_ex (fun v => IsBlk t9.b ∧ WAt t9.b nb v)
    have HE := Lib.hid hE
    have hE8 := hEW.2.1
    have hV8 := ((varsOk_iff V).1 hvok).1
    have HKEEP := Lib.hid (show ∀ k, k < 8 → fm k = false → E.V[k]? = V[k]? from fun k hk hf => hEW.2.2 k (fun hm => by
      rw [hnb] at hm
      have := (hfm k hk).2 ⟨hbk, hm⟩
      rw [hf] at this; cases this))
    have HSUB := Lib.hid (show ∀ k, k < 8 → fu k = true → fm k = true from fun k hk hf => (hfm k hk).2 ⟨hbk, by
      obtain ⟨j, h1, h2, _⟩ := ((hfu k hk).1 hf).2
      exact ⟨j, h1, h2⟩⟩)
    have HFM := Lib.hid (And.intro hfm hfu)
    have hnb20 : (nb : Int) ≤ 1048576 := by omega
    have q0 : w4.cell? ⟨gp, 0, none⟩ = some (.slice (some ⟨gb, 0, none⟩) nb cb) := by have h := (range4 H4.out.2.2.2.1).1; simpa using h
    have c0 : w4.cell? ⟨w1.heap.size, 0, none⟩ = some (.slice (some ⟨gp, 0, none⟩) n c) := H4.out.2.1.cell 0
    have hn0 : (0 : Int) < n := by omega
    clear hE hEW hTA ht9 hfm hfu
    go_wp2_with (go_at_call 14; (with_reducible refine (impl_maywrite (some ⟨gb, 0, none⟩) nb cb t9.b hnb20 hbc _ H4.out.2.2.2.2.1 fm HFM.out.1).mono ?_); rintro e w5 ⟨ay, ny, cy, rfl, hown5, hb5⟩; refine Hid.out ?_)
    have hny : (ny : Int) ≤ 8 := by have h1 := own_len hown5; have h2 := lst_len fm 8; omega
    have H5 := Lib.hid (And.intro (H4.out.1.kept (grown_below hb5 none) (by cases av <;> simp [Value.ownBlock])) (And.intro (H4.out.2.1.below hb5) (And.intro (H4.out.2.2.1.below hb5) (And.intro (H4.out.2.2.2.2.1.below hb5) (And.intro (below_then H4.out.2.2.2.2.2.1 hb5) (And.intro (H4.out.2.2.2.2.2.2.kept (grown_below hb5 none) (by simp [Value.ownBlock])) (Row.of_own hown5)))))))
    clear hown5 hb5 q0 c0 H4
    refine Lib.hid ?_
    go_wp2_with (go_at_call 15; (with_reducible refine (impl_mustwrite (some ⟨gb, 0, none⟩) nb cb t9.b hnb20 hbc _ H5.out.2.2.2.1 fu HFM.out.2).mono ?_); rintro e w6 ⟨au, nu, cu, rfl, hown6, hb6⟩; refine Hid.out ?_)
    have hnu : (nu : Int) ≤ 8 := by have h1 := own_len hown6; have h2 := lst_len fu 8; omega
    have H6 := Lib.hid (And.intro (H5.out.1.kept (grown_below hb6 none) (by cases av <;> simp [Value.ownBlock])) (And.intro (H5.out.2.1.below hb6) (And.intro (H5.out.2.2.1.below hb6) (And.intro (Row.of_own hown6) (And.intro (below_then H5.out.2.2.2.2.1 hb6) (And.intro (H5.out.2.2.2.2.2.1.kept (grown_below hb6 none) (by simp [Value.ownBlock])) (H5.out.2.2.2.2.2.2.below hb6)))))))
    clear hown6 hb6 H5
    refine Lib.hid ?_
    go_wp2_with (first
      | (refine wpList_load_row rfl 26 _ rfl w1.heap.size rfl _ _ _ _ H6.out.2.1 Tryz.underlying26 rfl (by kernel_rfl) ?_)
      | (go_at_call 16; (with_reducible refine (impl_taskeffect (some ⟨gp, 0, none⟩) n c P HSZ.out hnc _ H6.out.2.2.1 av 8 cv V (by decide) hcv (Row.of_own H6.out.1) (some ⟨gr, 0, none⟩) R.length cr R hRI hcr (Row.of_own H6.out.2.2.2.2.2.1) 0 true E HE.out).mono ?_); rintro e w7 ⟨a1, m1, k1, a2, m2, k2, rfl, hm, hb7⟩; refine Hid.out ?_))
    obtain rfl : m1 = 8 := by have := own_len hm.1; omega
    have H7 := Lib.hid (And.intro (Box.new w7 zero4E 37) (And.intro (below_new w7 (.cells zero4E 37)) (And.intro ((Row.of_own H6.out.1).below hb7) (And.intro (H6.out.2.2.2.1.below hb7) (And.intro (below_then H6.out.2.2.2.2.1 hb7) (And.intro (H6.out.2.2.2.2.2.2.below hb7) (Row.of_own hm.1)))))))
    clear hm hb7 H6
    refine Lib.hid ?_
    go_wp2_with ((refine wpList_store_box rfl 37 _ _ rfl w7.heap.size _ _ H7.out.1 #[.slice a1 8 k1, .slice a2 m2 k2, .int .i64 E.N, .int .i64 E.U] rfl rfl rfl (by kernel_rfl) (by simp [Value.oneCell']) ?_); intro w8 hx8 hg8; refine Hid.out ?_)
    have hb8 : Below w7.heap.size w7 w8 := H7.out.2.1.grown hg8 H7.out.2.1.size (fun j hj => by cases hj; exact Nat.le_refl _)
    have H8 := Lib.hid (And.intro hx8 (And.intro (H7.out.2.2.1.below hb8) (And.intro (H7.out.2.2.2.1.below hb8) (And.intro (below_then H7.out.2.2.2.2.1 hb8) (And.intro (H7.out.2.2.2.2.2.1.below hb8) (H7.out.2.2.2.2.2.2.below hb8))))))
    have k0 : w8.cell? ⟨w7.heap.size, 0, none⟩ = some (.slice a1 8 k1) := hx8.cell 0
    clear hx8 hg8 hb8 H7
    refine Lib.hid ?_
    go_wp2
    go_loopw [11] (fun i wr => ∃ k : Nat, k ≤ 8 ∧ i = .int .i64 k ∧ Hid (Below w8.heap.size w8 wr)) (fun i _ => 8 - (intOf i).toNat)
    case atStart => exact ⟨0, Nat.zero_le _, rfl, Below.refl _ _⟩
    case round =>
      obtain ⟨k, hk, rfl, HRW⟩ := hrel
      by_cases hlt : k < 8
      · have hI : (k : Int) < 8 := by omega
        have HRE := Lib.hid (H8.out.2.2.2.2.2.below HRW.out)
        have HRV := Lib.hid (H8.out.2.1.below HRW.out)
        have HRM := Lib.hid (H8.out.2.2.2.2.1.below HRW.out)
        have HRU := Lib.hid (H8.out.2.2.1.below HRW.out)
        have hk0 : wr.cell? ⟨w7.heap.size, 0, none⟩ = some (.slice a1 8 k1) := (HRW.out.cell (p := ⟨w7.heap.size, 0, none⟩) H8.out.1.lt).trans k0
        obtain ⟨ge, oe, xe, hae, _, hxe, hce⟩ := HRE.out.2 k hlt
        obtain ⟨gv, ov, xv, hav, _, hxv, hcv'⟩ := HRV.out.2 k hlt
        subst hae hav
        cases hm : fm k
        · have hu : fu k = false := by cases h : fu k; rfl; have := HSUB.out k hlt h; rw [hm] at this; cases this
          obtain rfl : xe = xv := by have := HKEEP.out k hlt hm; rw [hxe, hxv] at this; exact Option.some.inj this
          have Q1 := Lib.hid (has_q wr ay ny cy _ (k : Int) false (by omega) HRM.out (by rw [dec_lst hlt]; exact hm))
          have Q2 := Lib.hid (has_q wr au nu cu _ (k : Int) false (by omega) HRU.out (by rw [dec_lst hlt]; exact hu))
          have Q3 := Lib.hid (hasvar_q wr ay ny cy _ (k : Int) false (by omega) HRM.out (by rw [dec_lst hlt]; exact hm))
          clear hm hu hxe hxv
          go_wp2
          go_quiet ((first
            | (go_at_call 17; first | (with_reducible exact Calls.quiet_of_same (Q1.out _)) | (with_reducible exact Calls.quiet_of_same (Q2.out _)))
            | (go_at_call 18; with_reducible exact Calls.quiet_of_same (Q3.out _))))
          go_wp2
          go_roundw
          case rel => exact ⟨k + 1, by omega, by go_num, by first | exact HRW.out | exact below_drewN HRW.out _⟩
          case measure => simp [intOf]; omega
        · cases hu : fu k
          · have Q1 := Lib.hid (has_q wr ay ny cy _ (k : Int) true (by omega) HRM.out (by rw [dec_lst hlt]; exact hm))
            have Q2 := Lib.hid (has_q wr au nu cu _ (k : Int) false (by omega) HRU.out (by rw [dec_lst hlt]; exact hu))
            have Q3 := Lib.hid (hasvar_q wr ay ny cy _ (k : Int) true (by omega) HRM.out (by rw [dec_lst hlt]; exact hm))
            clear hm hu hxe hxv
            go_wp2
            go_quiet ((first
              | (go_at_call 17; first | (with_reducible exact Calls.quiet_of_same (Q1.out _)) | (with_reducible exact Calls.quiet_of_same (Q2.out _)))
              | (go_at_call 18; with_reducible exact Calls.quiet_of_same (Q3.out _))))
            go_wp2
            go_roundw
            case rel => exact ⟨k + 1, by omega, by go_num, by first | exact HRW.out | exact below_drewN HRW.out _⟩
            case measure => simp [intOf]; omega
          · have Q1 := Lib.hid (has_q wr ay ny cy _ (k : Int) true (by omega) HRM.out (by rw [dec_lst hlt]; exact hm))
            have Q2 := Lib.hid (has_q wr au nu cu _ (k : Int) true (by omega) HRU.out (by rw [dec_lst hlt]; exact hu))
            have Q3 := Lib.hid (hasvar_q wr ay ny cy _ (k : Int) true (by omega) HRM.out (by rw [dec_lst hlt]; exact hm))
            clear hm hu hxe hxv
            go_wp2
            go_quiet ((first
              | (go_at_call 17; first | (with_reducible exact Calls.quiet_of_same (Q1.out _)) | (with_reducible exact Calls.quiet_of_same (Q2.out _)))
              | (go_at_call 18; with_reducible exact Calls.quiet_of_same (Q3.out _))))
            go_wp2
            go_roundw
            case rel => exact ⟨k + 1, by omega, by go_num, by first | exact HRW.out | exact below_drewN HRW.out _⟩
            case measure => simp [intOf]; omega
      · have hI : ¬ (k : Int) < 8 := by omega
        go_wp2
        go_ret
        exact ⟨rfl, below_then H8.out.2.2.2.1 HRW.out⟩

/-! ### THE ROW's STEP: WRITTEN OUT: LEAVE IT -/
set_option maxRecDepth 100000 in
theorem lifted (os : Os) (started : os.Started) (H : Type) (enc : TypeId × Value → H) :
    ReturnsInHanded {} Tryz.checked os 3 .any (Rows.fnWritesSpec.pre6 enc Tryz.prog Tryz.f3 Rows.fnWritesRow.domain false) (Rows.fnWritesSpec.post enc Tryz.prog Tryz.f3 false true false false) := by
  refine returnsInHanded_of_change (C := Tryz.checked) own started (by kernel_rfl) Tryz.func3
    (ChangeSpec.witness6 (enc := enc) (C := Tryz.checked) false ⟨#[], #[.slice none 0 0], []⟩ 8 (by kernel_rfl) (by kernel_rfl) (by kernel_rfl) (by kernel_rfl)) ?_
  intro W base args ds gs before hval0 hW hcnd _
  have hval : ∀ (j : Nat) t v, Tryz.f3.params[j]? = some t → args[j]? = some v → Value.okWide Tryz.prog W .any base t v := hval0
  have hW' := hW
  obtain ⟨p, q, hA0, hV, rfl, hfz, hnd⟩ := hW
  have hA : DataW.TrodAll enc Tryz.prog W 0 (fun _ => true) true Tryz.f3.params.toList args.toList ds p := hA0
  rw [Tryz.params3] at hA hval
  obtain ⟨v0, vs0, d0, ds0, p0, q0, hargs, rfl, rfl, h0, r0⟩ := trodAll_cons hA
  obtain ⟨rfl, rfl, rfl⟩ := trodAll_nil r0
  obtain rfl : args = #[v0] := by cases args; simp_all
  obtain ⟨rfl, rfl⟩ := trodVars_none hV
  obtain ⟨a0, len0, cap0, rfl⟩ := okWide_slice Tryz.underlying22 (hval 0 22 v0 rfl rfl)
  have k0 := h0
  have lt0 : ∀ x ∈ p0, x.block < W.heap.size := by obtain ⟨m, hm⟩ := k0; exact DataW.trod_lt m _ _ _ hm
  obtain ⟨z0, w0⟩ : ∃ zs, IsRow .u8 W a0 len0 cap0 zs := by
    obtain ⟨fuel, hf⟩ := h0
    rcases open_ints Tryz.underlying22 Tryz.underlying5 (by kernel_rfl) hf with ⟨hcs, _⟩ | ⟨x, l, c, zs, hcs, _, hl, hm, hz, _, hcell, hwz⟩
    · simp [Value.cells] at hcs
      obtain ⟨rfl, rfl, rfl⟩ := hcs
      exact ⟨[], .inl ⟨rfl, rfl, rfl, rfl⟩⟩
    · simp [Value.cells] at hcs
      obtain ⟨rfl, rfl, rfl⟩ := hcs
      exact ⟨zs, .inr ⟨_, rfl, hl, hm, by simpa using hz, hcell, hwz⟩⟩
  clear hA0 hval0
  refine (walk a0 len0 cap0 z0 W w0).mono fun e W' ⟨he, bel⟩ => ?_
  subst he
  exact ⟨_, rfl, _, _, _, [], _, [], hW', trodAll_mk1 (shut_bool Tryz.underlying4 _), (trodAll_cons_mk (Below.trod laidOut (by kernel_rfl) (of_decide_eq_true (by kernel_rfl)) k0 bel lt0) trodAll_mk0), rfl, bel.frame _, fun h => by cases h⟩

theorem over : Rows.fnWritesRow.holds Tryz.pinned (OpenSpec.ofChange Rows.fnWritesSpec) :=
  OpenClaim.holds_of_wide 3 Tryz.f3 rfl rfl rfl rfl rfl rfl rfl ⟨rfl, rfl, rfl, rfl, rfl⟩ rfl rfl rfl rfl rfl (by kernel_rfl) Tryz.func3 (by kernel_rfl)
    (of_decide_eq_true (by kernel_rfl)) (by unfold Func.isWrapper; first | (rw [if_pos (by decide +kernel)]; kernel_rfl) | (rw [if_neg (by decide +kernel)]; exact ⟨rfl, rfl⟩))
    (fun os started H enc _ => lifted os started H enc)

/-- ████ THE STATEMENT ████ -/
theorem proved : Rows.FnWritesSaid := over
#print axioms proved
end Go.Proofs.YtekdnhhmiabngaaGreat.fnWrites
