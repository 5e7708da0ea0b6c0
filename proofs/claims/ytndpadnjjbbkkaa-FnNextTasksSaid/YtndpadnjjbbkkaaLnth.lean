/- For every input the law FnNextTasks returns true and leaves its argument as it was; no condition. -/
import Derived.Test.YtndpadnjjbbkkaaRows
import Derived.WalkKit
import Derived.ProofKit
import Derived.OpenShut
import Derived.ShutString
import Derived.ChangeOld
import Derived.Below
import Derived.Test.YtndpadnjjbbkkaaGHub18
import Derived.Test.YtndpadnjjbbkkaaGHub35
import Derived.Test.YtndpadnjjbbkkaaGHub34
import Derived.Test.YtndpadnjjbbkkaaGHub37
import Derived.Test.YtndpadnjjbbkkaaGHub39
import Derived.Test.YtndpadnjjbbkkaaGHub42
import Derived.Test.YtndpadnjjbbkkaaGHub47
import Derived.Test.YtndpadnjjbbkkaaGHub10
import Derived.Test.YtndpadnjjbbkkaaGHub19
import Derived.Test.YtndpadnjjbbkkaaGHub29
import Derived.Test.YtndpadnjjbbkkaaGHub48
import Derived.Deep.RegionHeld3
namespace Go.Proofs.Ytndpadnjjbbkkaa.fnNextTasks
open Go.ChangeShapes Go.WideShapes Go.ChangeAt Go.RowKit
open Go.ChangeMaps (open_string shut_string)
set_option linter.unusedVariables false

theorem own : ownKnob Try.prog.godebug = none := by kernel_rfl
theorem laidOut : laidOutB Try.prog = true := by kernel_rfl

/-- WHAT THE WALK IS TOLD OF A SLICE OF INTEGERS THAT CAME IN: it is nil; or it leads to a row of 'cap' cells, the numbers 'zs' (the first 'len' are its elements, the rest its spare room), each fitting its kind. -/
def IsRow (k : IntKind) (w : World) (a : Option Addr) (len cap : Nat) (zs : List Int) : Prop :=
  (a = none ∧ len = 0 ∧ cap = 0 ∧ zs = []) ∨
  ∃ x, a = some x ∧ len ≤ cap ∧ cap ≤ maxLen ∧ zs.length = cap ∧ (∀ i, i < zs.length → w.cell? (x.add i) = some (.int k (zs.getD i 0))) ∧ ∀ n ∈ zs, (Lit.int k n).wf = true

open Go.Proofs.Ytndpadnjjbbkkaa.row Go.Proofs.Ytndpadnjjbbkkaa.val Go.Proofs.Ytndpadnjjbbkkaa.expr Go.Proofs.Ytndpadnjjbbkkaa.stm Go.Proofs.Ytndpadnjjbbkkaa.cur Go.Proofs.Ytndpadnjjbbkkaa.blk Go.Proofs.Ytndpadnjjbbkkaa.prg
theorem reads_is (w : World) (o a b : Int) (h : exprOk o a b = true) : Calls Try.prog 28 #[ev o a b] w (NewInts w (rd a b 8)) := impl_reads_ok w o a b h
theorem ivs_one_cell (L : List Int) : ∀ u ∈ ivs L, u.oneCell' = true := by
  intro u hu
  obtain ⟨x, _, rfl⟩ := List.mem_map.1 hu
  rfl
theorem sizes_drawn {P : List Tk} (hl : P.length ≤ 3) (h : ∀ t ∈ P, TkOk t) : Sizes P := ⟨by omega, fun t ht => by have := (h t ht).2.1; omega⟩
theorem prg_drawn {P : List Tk} (h1 : 1 ≤ P.length) (hl : P.length ≤ 3) (h : ∀ t ∈ P, TkOk t) : IsPrg P := ⟨h1, by omega, fun t ht => ⟨(h t ht).1, (h t ht).2.2⟩⟩
set_option maxHeartbeats 8000000 in
set_option maxRecDepth 100000 in
theorem walk (a0 : Option Addr) (len0 cap0 : Nat) (z0 : List Int) (w : World) (w0 : IsRow .u8 w a0 len0 cap0 z0) :
    Calls Try.prog 8 #[.slice a0 len0 cap0] w fun e w' => e = .returned (.bool true) ∧ Below w.heap.size w w' := by
  obtain ⟨i0, hi, hz0, hz1, hz2⟩ := info_parts row.infoInt
  have HB : Hid (∀ i : Nat, i < len0 → ∃ (b off : Nat) (v : Int), a0 = some ⟨b, off, none⟩ ∧ w.cell? ⟨b, off + i, none⟩ = some (.int .u8 v)) := by
    intro i hi
    rcases w0 with ⟨_, h0, _⟩ | ⟨x, rfl, hl, _, hz, hcell, _⟩
    · omega
    · obtain ⟨b, off, rfl, hc⟩ := ints_at hcell (by omega)
      exact ⟨b, off, _, rfl, hc i (by omega)⟩
  have HB2 : Hid (∀ w1 : World, Below w.heap.size w w1 → ∀ i : Nat, i < len0 → ∃ (b off : Nat) (v : Int), a0 = some ⟨b, off, none⟩ ∧ w1.cell? ⟨b, off + i, none⟩ = some (.int .u8 v)) := by
    intro w1 hb1 i hi
    obtain ⟨b, off, v, ha, hv⟩ := HB.out i hi
    exact ⟨b, off, v, ha, (hb1.cell (World.block_lt_of_cell? w _ hv)).trans hv⟩
  clear w0
  by_cases hbig : (1048576 : Int) < len0
  · go_enter Try.func8, Try.ntmps8
    go_wp2_with (go_at_call 13; refine (big_yes _ _ _ _ hbig).mono ?_; rintro e w1 ⟨rfl, rfl⟩)
    go_ret
    exact ⟨rfl, Below.refl _ _⟩
  · have hsm : (len0 : Int) ≤ 1048576 := by omega
    clear hbig
    go_enter Try.func8, Try.ntmps8
    go_wp2_with (first
      | (go_at_call 13; refine (big_no _ _ _ _ hsm).mono ?_; rintro e w1 ⟨rfl, rfl⟩)
      | (go_at_call 14; refine (drawprogram_any _ _ _ _ hsm HB.out).mono ?_; rintro e w1 ⟨ad, n, c, P, rfl, hn1, hn3, hnc, HOK, HR, hb1⟩; refine Hid.out ?_))
    have HA1 := Lib.hid (And.intro (Box.new w1 #[.slice none 0 0] 31) (below_new w1 (.cells #[.slice none 0 0] 31)))
    have HB1 := Lib.hid (And.intro hb1 HR.out.row)
    have hl1 := hb1.size
    clear hb1 HR
    refine Lib.hid ?_
    go_wp2_with ((refine wpList_store_box rfl 31 _ _ rfl w1.heap.size _ _ HA1.out.1 #[.slice ad n c] rfl rfl rfl (by kernel_rfl) (by simp [Value.oneCell']) ?_); intro w2 hx2 hg2; refine Hid.out ?_)
    have hb2 : Below w1.heap.size w1 w2 := HA1.out.2.grown hg2 HA1.out.2.size (fun j hj => by cases hj; exact Nat.le_refl _)
    have H2 := Lib.hid (And.intro hx2 (And.intro (HB1.out.2.below hb2) (below_then HB1.out.1 hb2)))
    clear hx2 hg2 hb2 HA1 HB1
    refine Lib.hid ?_
    go_wp2_with (go_at_call 15; refine (vars_any _ _ _ _ hsm (HB2.out _ H2.out.2.2)).mono ?_; rintro e w3 ⟨av, cv, V, rfl, HVL, HVV, hown3, hb3⟩; refine Hid.out ?_)
    have H3 := Lib.hid (And.intro (H2.out.1.below hb3) (And.intro (H2.out.2.1.below hb3) (And.intro hown3 (below_then H2.out.2.2 hb3))))
    clear hb3 hown3 H2
    refine Lib.hid ?_
    go_wp2_with (go_at_call 17; refine (places_any _ _ _ _ hsm (HB2.out _ H3.out.2.2.2)).mono ?_; rintro e w4 ⟨v, X, rfl, hl, HP, hown4, hb4⟩; refine Hid.out ?_)
    obtain ⟨g, c2, rfl, hbg, hlg, p, hp, hcp⟩ := own_atI hown4 (k := 0) (by omega)
    obtain ⟨g', c', hv', _, _, q, hq, hcq⟩ := own_atI hown4 (k := 1) (by omega)
    injection hv' with h1 h2 h3
    injection h1 with h1
    injection h1 with h1
    subst h1
    obtain ⟨g'', c'', hv'', _, _, u, hu, hcu⟩ := own_atI hown4 (k := 2) (by omega)
    injection hv'' with h1' h2' h3'
    injection h1' with h1'
    injection h1' with h1'
    subst h1'
    have hp' := HP.out p (List.mem_of_getElem? hp)
    have hq' := HP.out q (List.mem_of_getElem? hq)
    have hu' := HP.out u (List.mem_of_getElem? hu)
    have hbx4 := H3.out.1.below hb4
    have hvok : varsOk V = true := (varsOk_iff V).2 ⟨HVL.out, HVV.out⟩
    have hrow4 := H3.out.2.1.below hb4
    have hPl := hrow4.1
    have hIP : IsPrg P := prg_drawn (by omega) (by omega) HOK.out
    have HSZ := Lib.hid (sizes_drawn (show P.length ≤ 3 by omega) HOK.out)
    have hn0 : (0 : Int) < n := by omega
    obtain ⟨i, hin, hi2⟩ : ∃ i : Nat, i < n ∧ p % (n : Int) = (i : Int) := ⟨(p % (n : Int)).toNat, by have := Int.emod_lt_of_pos p hn0; have := Int.emod_nonneg p (show (n : Int) ≠ 0 by omega); omega, by have := Int.emod_nonneg p (show (n : Int) ≠ 0 by omega); omega⟩
    have hmod0 : p.tmod n = (i : Int) := by rw [Int.tmod_eq_emod_of_nonneg hp'.1]; exact hi2
    have hwt : IntKind.i64.wrap (i : Int) = i := IntWalk.i64_in _ (by omega)
    obtain ⟨j, hj8, hj⟩ : ∃ j : Nat, j < 8 ∧ q % 8 = (j : Int) := ⟨(q % 8).toNat, by omega, by omega⟩
    have hmod1 : q.tmod 8 = (j : Int) := by rw [Int.tmod_eq_emod_of_nonneg hq'.1]; exact hj
    have hqv : isVal (u - 5000) = true := isVal_in (by omega) (by omega)
    obtain ⟨t, ht⟩ := prg_at (show i < P.length by omega)
    have hTK := (hIP.2.2 t (mem_at ht)).2
    have hex := (exprOk_iff _ _ _).1 hTK
    have hsh := rd_short hex.2.1 hex.2.2
    have hown34 := H3.out.2.2.1.kept (grown_below hb4 none) (by cases av <;> simp [Value.ownBlock])
    obtain ⟨gv, cv', hadv, hgvl, _⟩ := hown34.form (by omega)
    injection hadv with ea _ ec
    subst ea
    subst ec
    obtain ⟨Z, hZ⟩ : ∃ Z, Z = nx (evalV V t.o t.x t.y) n := ⟨_, rfl⟩
    have hZr := nx_range (v := evalV V t.o t.x t.y) (show 0 < n by omega)
    rw [← hZ] at hZr
    have hZ0 := hZr.1
    have hZn := hZr.2
    have HNX := Lib.hid (show NextIs P V i Z from .inl ⟨i, t, rfl, ht, hIP, hvok, by rw [hPl]; exact hZ⟩)
    have hset := varsOk_set hvok hqv j
    obtain ⟨Y, HNY, hYZ⟩ : ∃ Y, Hid (NextIs P (V.set j (u - 5000)) i Y) ∧ (decide ((j : Int) ∈ rd t.x t.y 8) = true ∨ (decide ((j : Int) ∈ rd t.x t.y 8) = false ∧ Y = Z)) := by
      refine ⟨nx (evalV (V.set j (u - 5000)) t.o t.x t.y) n, .inl ⟨i, t, rfl, ht, hIP, hset, by rw [hPl]⟩, ?_⟩
      by_cases h : (j : Int) ∈ rd t.x t.y 8
      · exact Or.inl (by simpa using h)
      · exact Or.inr ⟨by simpa using h, by rw [hZ, evalV_set (o := t.o) hvok hqv hj8 h]⟩
    have HTK := Lib.hid hTK
    have HT := Lib.hid ht
    have HSH := Lib.hid hsh
    have H4 := Lib.hid (And.intro hbx4 (And.intro hrow4 (And.intro hown34 (below_then H3.out.2.2.2 hb4))))
    have hcb4 : w4.drew.cell? ⟨w1.heap.size, 0, none⟩ = some (.slice ad n c) := hbx4.cell 0
    have hcpd : w4.drew.cell? ⟨g, 0, none⟩ = some (.int .i64 p) := hcp
    have hlb4 : w1.heap.size < w4.heap.size := hbx4.lt
    have hnn0 : ¬ n = 0 := by omega
    have hl34 : w3.heap.size ≤ w4.heap.size := hb4.size
    clear hbx4 hrow4 hown34 hown4 hb4 hl hp hq hu HP HVL HVV hvok hIP hTK ht hsh hex hset hZ hZr hi2 hj H3 HOK hcp
    refine Lib.hid ?_
    go_wp2
    go_region_held3 (fun w' => w'.cell? ⟨g, 0, none⟩ = some (.int .i64 p) ∧ w'.cell? ⟨w1.heap.size, 0, none⟩ = some (.slice ad n c))
      (first | (with_reducible exact ⟨hcpd, hcb4⟩) | (with_reducible assumption))
      (fail)
    have HD4 := Lib.hid (show Below w4.heap.size w4 w4.drew from Below.drew (Below.refl _ w4))
    refine Lib.hid ?_
    go_wp2_with (go_at_call 25; (with_reducible refine (impl_nexttask ad n c P HSZ.out hnc _ (H4.out.2.1.below HD4.out) (some ⟨gv, 0, none⟩) 8 cv V (by omega) ((Row.of_own H4.out.2.2.1).below HD4.out) i Z HNX.out).mono ?_); rintro e w5 ⟨rfl, hb5⟩; refine Hid.out ?_)
    have hb45 : Below w4.heap.size w4 w5 := below_then HD4.out hb5
    have hcq5 : w5.cell? ⟨g, 1, none⟩ = some (.int .i64 q) := (hb45.cell (p := ⟨g, 1, none⟩) hlg).trans hcq
    have hcu5 : w5.cell? ⟨g, 2, none⟩ = some (.int .i64 u) := (hb45.cell (p := ⟨g, 2, none⟩) hlg).trans hcu
    have H5 := Lib.hid (And.intro (H4.out.1.below hb45) (And.intro (H4.out.2.1.below hb45) (And.intro (H4.out.2.2.1.kept (grown_below hb45 none) (by simp [Value.ownBlock])) (below_then H4.out.2.2.2 hb45))))
    have hlg5 : g < w5.heap.size := Nat.lt_of_lt_of_le hlg hb45.size
    have hgv5 : gv < w5.heap.size := by have := hb45.size; have := (H4.out.2.2.1.lt gv rfl).2; omega
    have HE := Lib.hid (World.ownsRow_made (base := w5.heap.size) (e := 3) (size := 1) w5 #[] 0 (Nat.le_refl _) (by decide) rfl)
    have HV5 := Lib.hid (H5.out.2.2.1.alloc (.cells #[] 3))
    clear hb5 hb45 hcb4 hcpd hcq hcu H4 hlg hlb4
    refine Lib.hid ?_
    go_wp2_with (at_builtin; refine wpList_append_own _ rfl _ _ 22 rfl w5.heap.size 3 i0 (.int .i64 0) 1 8 Try.underlying22 hi hz0 hz1 hz2 rfl (by decide) _ _ _ rfl HE.out ⟨gv, 0, none⟩ 8 cv (ivs V) rfl HV5.out.1 (HV5.out.cells (g := gv) rfl) (ivs_one_cell V) (by unfold maxLen; omega) (by omega) (by simp) ?_; intro v7 w7 hown7 hgrow7 _; refine Hid.out ?_)
    rw [Nat.zero_add, List.nil_append] at hown7
    obtain ⟨g7, c7, rfl, hg7, hl7⟩ := hown7.form (by omega)
    have hA7 : (w5.alloc (.cells #[] 3)).grownBy w7 (some w5.heap.size) := hgrow7
    have hb57 : Below w5.heap.size w5 w7 := Below.grown (below_new w5 (.cells #[] 3)) hA7 (by simp) (fun k hk => by cases hk; exact Nat.le_refl _)
    have hcu7 : w7.cell? ⟨g, 2, none⟩ = some (.int .i64 u) := (hb57.cell (p := ⟨g, 2, none⟩) hlg5).trans hcu5
    obtain ⟨g7', X7, eg, _, _, hX, hfz⟩ := own_store hown7 hj8
    obtain rfl : g7 = g7' := by injection eg with e1; injection e1
    obtain ⟨hown8, hgrow8⟩ := hown7.stored j (.int .i64 (u - 5000))
    rw [ivs_set] at hown8
    obtain ⟨w8, hw8⟩ : ∃ w8, w7.setCell ⟨g7, j, none⟩ (.int .i64 (u - 5000)) = w8 := ⟨_, rfl⟩
    have hj0 : (0 : Int) ≤ j := by omega
    have hjI : (j : Int) < 8 := by omega
    have HW8 := Lib.hid hw8
    rw [hw8] at hown8 hgrow8
    have hb58 : Below w5.heap.size w5 w8 := Below.grown hb57 hgrow8 hb57.size (fun k hk => by cases hk; exact hg7)
    have hrow8 := H5.out.2.1.below hb58
    obtain ⟨gt, offt, t', ha, hlt8, ht', ab, nb, cb, hrg, _, _⟩ := hrow8.2 i hin
    obtain rfl : t' = t := by have := HT.out; rw [this] at ht'; exact (Option.some.inj ht').symm
    subst ha
    have H8 := Lib.hid (And.intro (H5.out.1.below hb58) (And.intro hrow8 (And.intro ((Row.of_own H5.out.2.2.1).below hb58) (And.intro (Row.of_own hown8) (And.intro (below_then H5.out.2.2.2 hb58) hrg)))))
    have hc8 : w8.cell? ⟨w1.heap.size, 0, none⟩ = some (.slice (some ⟨gt, offt, none⟩) n c) := H8.out.1.cell 0
    have hl8 : w1.heap.size < w8.heap.size := H8.out.1.lt
    have hc8s : (w7.setCell ⟨g7, j, none⟩ (.int .i64 (u - 5000))).cell? ⟨w1.heap.size, 0, none⟩ = some (.slice (some ⟨gt, offt, none⟩) n c) := by rw [HW8.out]; exact hc8
    clear hown7 hgrow7 hA7 hb57 hown8 hgrow8 hb58 hrow8 hrg HE HV5 hw8 ht' H5 hlg5 hgv5 eg
    refine Lib.hid ?_
    go_wp2_with (go_at_call 23; rw [HW8.out]; (with_reducible refine (spec_nexttask (some ⟨gt, offt, none⟩) n c P HSZ.out _ H8.out.2.1 (some ⟨gv, 0, none⟩) 8 cv V (by omega) H8.out.2.2.1 i Z HNX.out).mono ?_); rintro e w9 ⟨rfl, hb9⟩; refine Hid.out ?_)
    have hc9 : w9.cell? ⟨w1.heap.size, 0, none⟩ = some (.slice (some ⟨gt, offt, none⟩) n c) := (hb9.cell (p := ⟨w1.heap.size, 0, none⟩) hl8).trans hc8
    have q9 := held4o hb9 hlt8 (range4 H8.out.2.2.2.2.2)
    have q1 := q9.2.1
    have q2 := q9.2.2.1
    have q3 := q9.2.2.2
    have hl9 : w1.heap.size < w9.heap.size := Nat.lt_of_lt_of_le hl8 hb9.size
    have H9 := Lib.hid (And.intro (H8.out.2.1.below hb9) (And.intro (H8.out.2.2.2.1.below hb9) (below_then H8.out.2.2.2.2.1 hb9)))
    clear hb9 q9 H8 hc8 hc8s hcq5 hcu5 hcu7 hX hfz
    refine Lib.hid ?_
    go_wp2_with (go_at_call 28; refine (reads_is _ _ _ _ HTK.out).mono ?_; rintro e w10 ⟨ad10, n10, cap10, rfl, ho10, hb10⟩; refine Hid.out ?_)
    have hn10 : (n10 : Int) ≤ 2 := by have h1 := own_len ho10; have h2 := HSH.out; omega
    have hc10 : w10.cell? ⟨w1.heap.size, 0, none⟩ = some (.slice (some ⟨gt, offt, none⟩) n c) := (hb10.cell (p := ⟨w1.heap.size, 0, none⟩) hl9).trans hc9
    have H10 := Lib.hid (And.intro (H9.out.1.below hb10) (And.intro (H9.out.2.1.below hb10) (And.intro (Row.of_own ho10) (below_then H9.out.2.2 hb10))))
    clear hb10 ho10 hc9 q1 q2 q3 H9
    rcases hYZ with hin' | ⟨hout, rfl⟩
    · refine Lib.hid ?_
      go_wp2_with (go_at_call 27; refine (has_any _ _ _ _ _ _ _ (by omega) H10.out.2.2.1 hin').mono ?_; rintro e w11 ⟨rfl, rfl⟩)
      go_ret
      exact ⟨rfl, H10.out.2.2.2⟩
    · refine Lib.hid ?_
      go_wp2_with (first
        | (go_at_call 27; refine (has_any _ _ _ _ _ _ _ (by omega) H10.out.2.2.1 hout).mono ?_; rintro e w11 ⟨rfl, rfl⟩)
        | (go_at_call 25; (with_reducible refine (impl_nexttask _ n c P HSZ.out hnc _ H10.out.1 (some ⟨g7, 0, none⟩) 8 c7 _ (by omega) H10.out.2.1 i _ HNY.out).mono ?_); rintro e w12 ⟨rfl, hb12⟩))
      go_ret
      exact ⟨rfl, below_then H10.out.2.2.2 hb12⟩

/-! ### THE ROW's STEP: WRITTEN OUT: LEAVE IT -/
set_option maxRecDepth 100000 in
theorem lifted (os : Os) (started : os.Started) (H : Type) (enc : TypeId × Value → H) :
    ReturnsInHanded {} Try.checked os 8 .any (Rows.fnNextTasksSpec.pre6 enc Try.prog Try.f8 Rows.fnNextTasksRow.domain false) (Rows.fnNextTasksSpec.post enc Try.prog Try.f8 false true false false) := by
  refine returnsInHanded_of_change (C := Try.checked) own started (by kernel_rfl) Try.func8
    (ChangeSpec.witness6 (enc := enc) (C := Try.checked) false ⟨#[], #[.slice none 0 0], []⟩ 8 (by kernel_rfl) (by kernel_rfl) (by kernel_rfl) (by kernel_rfl)) ?_
  intro W base args ds gs before hval0 hW hcnd _
  have hval : ∀ (j : Nat) t v, Try.f8.params[j]? = some t → args[j]? = some v → Value.okWide Try.prog W .any base t v := hval0
  have hW' := hW
  obtain ⟨p, q, hA0, hV, rfl, hfz, hnd⟩ := hW
  have hA : DataW.TrodAll enc Try.prog W 0 (fun _ => true) true Try.f8.params.toList args.toList ds p := hA0
  rw [Try.params8] at hA hval
  obtain ⟨v0, vs0, d0, ds0, p0, q0, hargs, rfl, rfl, h0, r0⟩ := trodAll_cons hA
  obtain ⟨rfl, rfl, rfl⟩ := trodAll_nil r0
  obtain rfl : args = #[v0] := by cases args; simp_all
  obtain ⟨rfl, rfl⟩ := trodVars_none hV
  obtain ⟨a0, len0, cap0, rfl⟩ := okWide_slice Try.underlying27 (hval 0 27 v0 rfl rfl)
  have k0 := h0
  have lt0 : ∀ x ∈ p0, x.block < W.heap.size := by obtain ⟨m, hm⟩ := k0; exact DataW.trod_lt m _ _ _ hm
  obtain ⟨z0, w0⟩ : ∃ zs, IsRow .u8 W a0 len0 cap0 zs := by
    obtain ⟨fuel, hf⟩ := h0
    rcases open_ints Try.underlying27 Try.underlying5 (by kernel_rfl) hf with ⟨hcs, _⟩ | ⟨x, l, c, zs, hcs, _, hl, hm, hz, _, hcell, hwz⟩
    · simp [Value.cells] at hcs
      obtain ⟨rfl, rfl, rfl⟩ := hcs
      exact ⟨[], .inl ⟨rfl, rfl, rfl, rfl⟩⟩
    · simp [Value.cells] at hcs
      obtain ⟨rfl, rfl, rfl⟩ := hcs
      exact ⟨zs, .inr ⟨_, rfl, hl, hm, by simpa using hz, hcell, hwz⟩⟩
  clear hA0 hval0
  refine (walk a0 len0 cap0 z0 W w0).mono fun e W' ⟨he, bel⟩ => ?_
  subst he
  exact ⟨_, rfl, _, _, _, [], _, [], hW', trodAll_mk1 (shut_bool Try.underlying4 _), (trodAll_cons_mk (Below.trod laidOut (by kernel_rfl) (of_decide_eq_true (by kernel_rfl)) k0 bel lt0) trodAll_mk0), rfl, bel.frame _, fun h => by cases h⟩

theorem over : Rows.fnNextTasksRow.holds Try.pinned (OpenSpec.ofChange Rows.fnNextTasksSpec) :=
  OpenClaim.holds_of_wide 8 Try.f8 rfl rfl rfl rfl rfl rfl rfl ⟨rfl, rfl, rfl, rfl, rfl⟩ rfl rfl rfl rfl rfl (by kernel_rfl) Try.func8 (by kernel_rfl)
    (of_decide_eq_true (by kernel_rfl)) (by unfold Func.isWrapper; first | (rw [if_pos (by decide +kernel)]; kernel_rfl) | (rw [if_neg (by decide +kernel)]; exact ⟨rfl, rfl⟩))
    (fun os started H enc _ => lifted os started H enc)

/-- ████ THE STATEMENT ████ -/
theorem proved : Rows.FnNextTasksSaid := over
#print axioms proved
end Go.Proofs.Ytndpadnjjbbkkaa.fnNextTasks
