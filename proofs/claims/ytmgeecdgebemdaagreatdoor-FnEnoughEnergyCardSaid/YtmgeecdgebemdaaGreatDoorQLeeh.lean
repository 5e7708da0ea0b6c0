/- For every input the law FnEnoughEnergy returns true and leaves its argument as it was; no condition. -/
import Derived.Test.YtmgeecdgebemdaaGreatDoorRows
import Derived.WalkKit
import Derived.ProofKit
import Derived.OpenShut
import Derived.ShutString
import Derived.ChangeOld
import Derived.Below
import Derived.OpenVars
import Derived.ChangeVars
import Derived.Test.YtmgeecdgebemdaaGreatDoorCards
import Derived.Test.YtmgeecdgebemdaaGreatDoorTie
import Derived.LaidMore
import Derived.Stop.Joined
import Derived.SevenTiedAt
import Derived.MakeChecks
import Derived.Test.YtmgeecdgebemdaaGreatDoorGSigQ19
import Derived.Test.YtmgeecdgebemdaaGreatDoorGSigQ44
import Derived.Test.YtmgeecdgebemdaaGreatDoorGSigQ18
import Derived.Test.YtmgeecdgebemdaaGreatDoorGSigQ49
import Derived.Test.YtmgeecdgebemdaaGreatDoorGSigQ45
import Derived.Test.YtmgeecdgebemdaaGreatDoorGSigQ31
import Derived.Deep.RegionHeld3
import Derived.Deep.RegionLaw
namespace Go.Proofs.YtmgeecdgebemdaaGreatDoor.fnEnoughEnergy
open Go.ChangeShapes Go.WideShapes Go.ChangeAt Go.RowKit
open Go.ChangeMaps (open_string shut_string)
set_option linter.unusedVariables false
theorem own : ownKnob Tryz.prog.godebug = none := by kernel_rfl
theorem laidOut : laidOutB Tryz.prog = true := by kernel_rfl

/-- WHAT THE WALK IS TOLD OF A SLICE OF INTEGERS THAT CAME IN: it is nil; or it leads to a row of 'cap' cells, the numbers 'zs' (the first 'len' are its elements, the rest its spare room), each fitting its kind. -/
def IsRow (k : IntKind) (w : World) (a : Option Addr) (len cap : Nat) (zs : List Int) : Prop :=
  (a = none ∧ len = 0 ∧ cap = 0 ∧ zs = []) ∨
  ∃ x, a = some x ∧ len ≤ cap ∧ cap ≤ maxLen ∧ zs.length = cap ∧ (∀ i, i < zs.length → w.cell? (x.add i) = some (.int k (zs.getD i 0))) ∧ ∀ n ∈ zs, (Lit.int k n).wf = true

open Go.WideMaps Go.WideElems
open Go.Proofs.YtmgeecdgebemdaaGreatDoor.row Go.Proofs.YtmgeecdgebemdaaGreatDoor.val Go.Proofs.YtmgeecdgebemdaaGreatDoor.expr Go.Proofs.YtmgeecdgebemdaaGreatDoor.cur Go.Proofs.YtmgeecdgebemdaaGreatDoor.stm Go.Proofs.YtmgeecdgebemdaaGreatDoor.blk Go.Proofs.YtmgeecdgebemdaaGreatDoor.prg Go.Proofs.YtmgeecdgebemdaaGreatDoor.exe Go.Proofs.YtmgeecdgebemdaaGreatDoor.grow Go.Proofs.YtmgeecdgebemdaaGreatDoor.ctl Go.Proofs.YtmgeecdgebemdaaGreatDoor.mem Go.Proofs.YtmgeecdgebemdaaGreatDoor.trc Go.Proofs.YtmgeecdgebemdaaGreatDoor.bot
theorem rdg_vals {R : List Int} (h : RdgIn R) : allV R = true := (allV_iff _).2 (fun x hx => (isVal_iff _).2 (by have := h x hx; omega))
theorem sizes_of {P : List Tk} {n : Nat} (hl : P.length = n) (h3 : n ≤ 3) (h : ∀ t ∈ P, TkOk t) : Sizes P := ⟨by omega, fun t ht => by have := (h t ht).2.1; omega⟩
theorem mcapT {w : World} {B : Nat} {a : Option Addr} {n c s : Nat} {e : TypeId} {xs : List Value} (h : w.ownsRow B e s (.slice a n c) n xs) : n ≤ c := by
  rcases h.2 with ⟨e, e0⟩ | ⟨g', c', cur, e, _, _, h9, _⟩
  · cases e; omega
  · cases e; exact h9
set_option maxHeartbeats 8000000 in
set_option maxRecDepth 100000 in
theorem walk (a0 : Option Addr) (len0 cap0 : Nat) (z0 : List Int) (w : World) (w0 : IsRow .u8 w a0 len0 cap0 z0) (hL : laidMet Tryz.prog Rows.fnEnoughEnergyRow.laid w) :
    Calls Tryz.prog 3 #[.slice a0 len0 cap0] w fun e w' => e = .returned (.bool true) ∧ Below w.heap.size w w' := by
  have HB : Hid (∀ i : Nat, i < len0 → ∃ (b off : Nat) (v : Int), a0 = some ⟨b, off, none⟩ ∧ w.cell? ⟨b, off + i, none⟩ = some (.int .u8 v)) := by
    intro i hi
    rcases w0 with ⟨_, h0, _⟩ | ⟨x, rfl, hl, _, hz, hcell, _⟩
    · omega
    · obtain ⟨b, off, rfl, hc⟩ := ints_at hcell (by omega)
      exact ⟨b, off, _, rfl, hc i (by omega)⟩
  have HB2 : Hid (∀ w1 : World, Below w.heap.size w w1 → ∀ i : Nat, i < len0 → ∃ (b off : Nat) (v : Int), a0 = some ⟨b, off, none⟩ ∧ w1.cell? ⟨b, off + i, none⟩ = some (.int .u8 v)) := by
    intro w1 hb1 i hi
    obtain ⟨b, off, v, ha, hv⟩ := HB.out i hi
    exact ⟨b, off, v, ha, (hb1.cell (World.block_lt_of_cell? w _ hv)).trans hv⟩
  have HTB := Lib.hid (Go.Proofs.YtmgeecdgebemdaaGreatDoor.cst.costs_of (r := []) hL)
  clear w0 hL
  by_cases hbig : (1048576 : Int) < len0
  · go_enter Tryz.func3, Tryz.ntmps3
    go_wp2_with (go_at_call 10; refine (big_yes _ _ _ _ hbig).mono ?_; rintro e w1 ⟨rfl, rfl⟩)
    go_ret
    exact ⟨rfl, Below.refl _ _⟩
  · have hsm : (len0 : Int) ≤ 1048576 := by omega
    clear hbig
    go_enter Tryz.func3, Tryz.ntmps3
    go_wp2_with (first
      | (go_at_call 10; refine (big_no _ _ _ _ hsm).mono ?_; rintro e w1 ⟨rfl, rfl⟩)
      | (go_at_call 11; (with_reducible refine (drawmemory_any _ _ _ _ hsm HB.out).mono ?_); rintro e w1 ⟨ad, n, c, P, g, cm, Mem, rfl, hn1, hn3, hnc, hcm, HOK, HR, HMI, ho, hb1⟩; refine Hid.out ?_))
    have HA := Lib.hid (And.intro (Box.new w1 #[.slice none 0 0] 26) (below_new w1 (.cells #[.slice none 0 0] 26)))
    have H1 := Lib.hid (And.intro HR.out.row (And.intro (Row.of_own ho) hb1))
    clear ho hb1 HR
    refine Lib.hid ?_
    go_wp2_with ((refine wpList_store_box rfl 26 _ _ rfl w1.heap.size _ _ HA.out.1 #[.slice ad n c] rfl rfl rfl (by kernel_rfl) (by simp [Value.oneCell']) ?_); intro w2 hx2 hg2; refine Hid.out ?_)
    have hb2 : Below w1.heap.size w1 w2 := HA.out.2.grown hg2 HA.out.2.size (fun k hk => by cases hk; exact Nat.le_refl _)
    have H2 := Lib.hid (And.intro hx2 (And.intro (H1.out.1.below hb2) (And.intro (H1.out.2.1.below hb2) (below_then H1.out.2.2 hb2))))
    clear hx2 hg2 hb2
    refine Lib.hid ?_
    go_wp2_with (go_at_call 12; (refine (readings_any _ _ _ _ hsm (HB2.out _ H2.out.2.2.2)).mono ?_); rintro e w3 ⟨v1, R, rfl, hR1, hR9, HRG, hown1, hb3⟩; refine Hid.out ?_)
    obtain ⟨gr, cr, rfl, _, _, _⟩ := own_atI hown1 (k := 0) (by omega)
    have hcr := mcapT hown1
    have H3 := Lib.hid (And.intro (H2.out.1.below hb3) (And.intro (H2.out.2.1.below hb3) (And.intro (H2.out.2.2.1.below hb3) (And.intro (Row.of_own hown1) (below_then H2.out.2.2.2 hb3)))))
    obtain ⟨N, hN⟩ : ∃ N, R.length = N := ⟨_, rfl⟩
    rw [hN] at hR1 hR9 H3 hcr ⊢
    clear hown1 hb3 hN
    refine Lib.hid ?_
    go_wp2_with (go_at_call 13; (refine (places_any _ _ _ _ hsm (HB2.out _ H3.out.2.2.2.2)).mono ?_); rintro e w4 ⟨v2, Z, rfl, hl, HZ, hown2, hb4⟩; refine Hid.out ?_)
    obtain ⟨gz, cz, rfl, _, hlgz, z, hz, hcz⟩ := own_atI hown2 (k := 0) (by omega)
    have hz' := HZ.out z (List.mem_of_getElem? hz)
    have H4 := Lib.hid (And.intro (H3.out.1.below hb4) (And.intro (H3.out.2.1.below hb4) (And.intro (H3.out.2.2.1.below hb4) (And.intro (H3.out.2.2.2.1.below hb4) (And.intro (below_then H3.out.2.2.2.2 hb4) hcz)))))
    clear hown2 hb4 hcz
    have hPl : P.length = n := H4.out.2.1.1
    have h8M : -9223372036854775808 ≤ Mem.getD 8 0 ∧ Mem.getD 8 0 ≤ 9223372036854775807 := by have := pack_parts HMI.out.1.2.2.1; omega
    obtain ⟨q, htm, hq0, hq1⟩ : ∃ q, z.tmod 40 = q ∧ 0 ≤ q ∧ q < 40 := by
      rw [Int.tmod_eq_emod_of_nonneg hz'.1]
      exact ⟨_, rfl, by omega, by omega⟩
    have hok : BotOk P Mem R q := ⟨HMI.out.1, rdg_vals HRG.out, by omega, by omega⟩
    obtain ⟨x, hx⟩ := needIs_ex P Mem R q
    obtain ⟨r, B, hB⟩ := bootIs_ex P Mem R q x
    obtain ⟨r', B', hB'⟩ := bootIs_ex P Mem R q (x - 1)
    have HLAW := Lib.hid (show x ≤ 100000 → _ from fun hle => need_boot hok HMI.out.2 hx hle hB hB')
    have hxr : -1 ≤ x ∧ x ≤ 1000000 := by
      rcases hx with ⟨_, h9⟩ | ⟨_, Q, M, U, hQ, hT, h9⟩
      · omega
      · have hcc : ∀ c ∈ csts M, 1 ≤ c ∧ c ≤ 5 := fun c hc => by obtain ⟨m, hm, rfl⟩ := List.mem_map.1 hc; exact hT.cost.1 m hm
        have hl := hT.size.1
        have hs := cost_sum hcc (by rw [csts_len]; omega)
        have hsb := sum_bounds (csts M) hcc
        rw [csts_len] at hsb
        rw [Go.Proofs.YtmgeecdgebemdaaGreatDoor.bot.rec_clean HMI.out.2 hQ] at h9
        simp at h9
        omega
    have HNE := Lib.hid (show ∀ w', Below w4.heap.size w4 w' → Calls Tryz.prog 14 #[.agg #[.slice ad n c], .slice (some ⟨g, 0, none⟩) 49 cm, .slice (some ⟨gr, 0, none⟩) N cr, .int .i64 q] w' (BelI w' x) from fun w' hb => impl_needs ad n c P (sizes_of hPl hn3 HOK.out) hnc w' (H4.out.2.1.below hb) (some ⟨g, 0, none⟩) 49 cm Mem (by decide) hcm (H4.out.2.2.1.below hb) (some ⟨gr, 0, none⟩) N cr R (by omega) hcr (H4.out.2.2.2.1.below hb) q x hx h8M (HTB.out.below (below_then H4.out.2.2.2.2.1 hb)))
    have HBO := Lib.hid (show ∀ w' en r B, BootIs P Mem R q en r B → Below w4.heap.size w4 w' → Calls Tryz.prog 15 #[.agg #[.slice ad n c], .slice (some ⟨g, 0, none⟩) 49 cm, .slice (some ⟨gr, 0, none⟩) N cr, .int .i64 q, .int .i64 en] w' (NewBot w' r B) from fun w' en r B hB hb => impl_bootonce ad n c P (sizes_of hPl hn3 HOK.out) hnc w' (H4.out.2.1.below hb) (some ⟨g, 0, none⟩) 49 cm Mem (by decide) hcm (H4.out.2.2.1.below hb) (some ⟨gr, 0, none⟩) N cr R (by omega) hcr (H4.out.2.2.2.1.below hb) q en r B hB h8M (HTB.out.below (below_then H4.out.2.2.2.2.1 hb)))
    have HBA := Lib.hid (And.intro hB hB')
    have hcz : w4.cell? ⟨gz, 0, none⟩ = some (.int .i64 z) := H4.out.2.2.2.2.2
    have HX4 := Lib.hid H4.out.1
    clear hok hx hB hB' h8M
    refine Lib.hid ?_
    go_wp2_with (first
      | (refine wpList_load_row rfl 26 _ rfl w1.heap.size rfl _ _ _ _ HX4.out Tryz.underlying26 rfl (by kernel_rfl) ?_)
      | (go_at_call 14; (with_reducible refine (HNE.out _ (Below.refl _ _)).mono ?_); rintro e w5 ⟨rfl, hb5⟩; refine Hid.out ?_))
    have H5 := Lib.hid (And.intro (HX4.out.below hb5) hb5)
    clear hb5 HNE hcz htm
    by_cases hbigx : (100000 : Int) < x
    · refine Lib.hid ?_
      go_wp2
      go_ret
      exact ⟨rfl, below_then H4.out.2.2.2.2.1 H5.out.2⟩
    obtain ⟨l1, rfl, rfl, l4, l5, l6, l7⟩ := HLAW.out (by omega)
    have HL := Lib.hid (And.intro l4 (And.intro l5 (And.intro l6 l7)))
    clear HLAW l4 l5 l6 l7
    have hA5 : ∀ w' : World, Box w'.heap.size zero4B 34 (w'.alloc (.cells zero4B 34)) := fun w' => Box.new w' zero4B 34
    refine Lib.hid ?_
    go_wp2_with (first
      | (refine wpList_load_row rfl 26 _ rfl w1.heap.size rfl _ _ _ _ H5.out.1 Tryz.underlying26 rfl (by kernel_rfl) ?_)
      | (go_at_call 15; (with_reducible refine (HBO.out _ x true B HBA.out.1 H5.out.2).mono ?_); rintro e w6 ⟨am, nm, dm, au, nu, du, rfl, hm, hb6⟩; refine Hid.out ?_))
    have hbA := hm.out.used
    have H6 := Lib.hid (And.intro (H5.out.1.below hb6) (below_then H5.out.2 hb6))
    obtain ⟨eA, heA⟩ : ∃ e, B.e = e := ⟨_, rfl⟩
    obtain ⟨zA, hzA⟩ : ∃ e, B.z = e := ⟨_, rfl⟩
    rw [heA, hzA]
    have HLA := Lib.hid (show 1 ≤ nu ∧ 0 ≤ eA ∧ q ≤ zA from ⟨by rw [← hbA]; exact HL.out.1, by rw [← heA]; exact HL.out.2.2.1, by rw [← hzA]; exact HL.out.2.2.2⟩)
    have hnu10 : (nu : Int) ≤ 1048576 := by
      rw [← hbA]
      rcases HBA.out.1 with ⟨e9, _⟩ | ⟨_, hok9, Q9, hQ9, h9⟩
      · cases e9
      rcases h9 with ⟨_, rfl⟩ | ⟨h9, hr9⟩
      · show (([] : List (List Int)).length : Int) ≤ _; decide
      · have := (hr9.keeps (bootIs_start hok9 hQ9 h9)).2.2.2.2; simp at this; omega
    have HAX := Lib.hid (And.intro (hA5 w6) (below_new w6 (.cells zero4B 34)))
    clear hm hb6 hbA heA hzA H5
    refine Lib.hid ?_
    go_wp2_with ((refine wpList_store_box rfl 34 _ _ rfl w6.heap.size _ _ HAX.out.1 #[.slice am nm dm, .int .i64 zA, .slice au nu du, .int .i64 eA] rfl rfl rfl (by kernel_rfl) (by simp [Value.oneCell']) ?_); intro w7 hx7 hg7; refine Hid.out ?_)
    have hb7 : Below w6.heap.size w6 w7 := HAX.out.2.grown hg7 HAX.out.2.size (fun k hk => by cases hk; exact Nat.le_refl _)
    obtain ⟨gA, hgA⟩ : ∃ g, w6.heap.size = g := ⟨_, rfl⟩
    have H7 := Lib.hid (And.intro hx7 (And.intro (H6.out.1.below hb7) (below_then H6.out.2 hb7)))
    rw [hgA] at H7 ⊢
    have hxs : IntKind.i64.wrap (x - 1) = x - 1 := IntWalk.i64_in _ (by omega)
    clear hx7 hg7 hb7 hgA HAX H6
    refine Lib.hid ?_
    go_wp2_with (first
      | (refine wpList_load_row rfl 26 _ rfl w1.heap.size rfl _ _ _ _ H7.out.2.1 Tryz.underlying26 rfl (by kernel_rfl) ?_)
      | (go_at_call 15; (with_reducible refine (HBO.out _ (x - 1) true B' HBA.out.2 H7.out.2.2).mono ?_); rintro e w8 ⟨bm, mm, em, bu, mu, fu, rfl, hm, hb8⟩; refine Hid.out ?_))
    have hbB := hm.out.used
    obtain rfl : mu = 0 := by rw [← hbB]; exact HL.out.2.1
    have H8 := Lib.hid (And.intro (H7.out.1.below hb8) (below_then H7.out.2.2 hb8))
    obtain ⟨eB, heB⟩ : ∃ e, B'.e = e := ⟨_, rfl⟩
    obtain ⟨zB, hzB⟩ : ∃ e, B'.z = e := ⟨_, rfl⟩
    rw [heB, hzB]
    have HAX := Lib.hid (And.intro (hA5 w8) (below_new w8 (.cells zero4B 34)))
    clear hm hb8 hbB heB hzB H7 hxs HBO
    refine Lib.hid ?_
    go_wp2_with ((refine wpList_store_box rfl 34 _ _ rfl w8.heap.size _ _ HAX.out.1 #[.slice bm mm em, .int .i64 zB, .slice bu 0 fu, .int .i64 eB] rfl rfl rfl (by kernel_rfl) (by simp [Value.oneCell']) ?_); intro w9 hx9 hg9; refine Hid.out ?_)
    have hb9 : Below w8.heap.size w8 w9 := HAX.out.2.grown hg9 HAX.out.2.size (fun k hk => by cases hk; exact Nat.le_refl _)
    obtain ⟨gB, hgB⟩ : ∃ g, w8.heap.size = g := ⟨_, rfl⟩
    have H9 := Lib.hid (And.intro hx9 (And.intro (H8.out.1.below hb9) (below_then H8.out.2 hb9)))
    rw [hgB] at H9 ⊢
    clear hx9 hg9 hb9 hgB HAX H8
    have hnuI : (1 : Int) ≤ nu := by have := HLA.out.1; omega
    have heI : (0 : Int) ≤ eA := HLA.out.2.1
    have hzI : q ≤ zA := HLA.out.2.2
    have HBT := Lib.hid (show ∀ w', Calls Tryz.prog 16 #[botV am nm dm zA au nu du eA] w' (BelI w' nu) from fun w' => impl_boottasks w' am nm dm zA au nu du eA hnu10)
    have HBU := Lib.hid (show ∀ w', Calls Tryz.prog 16 #[botV bm mm em zB bu 0 fu eB] w' (BelI w' 0) from fun w' => impl_boottasks w' bm mm em zB bu 0 fu eB (by decide))
    refine Lib.hid ?_
    go_wp2_with (first
      | (refine aps.load_on (by kernel_rfl) 34 _ rfl gA rfl _ _ _ _ H9.out.2.1 Tryz.underlying34 rfl (by kernel_rfl) ?_)
      | (go_at_call 16; (with_reducible refine (HBT.out _).mono ?_); rintro e w10 ⟨rfl, hb10⟩; refine Hid.out ?_))
    have H10 := Lib.hid (And.intro (H9.out.1.below hb10) (And.intro (H9.out.2.1.below hb10) (below_then H9.out.2.2 hb10)))
    clear hb10 H9
    refine Lib.hid ?_
    go_wp2_with (first
      | (refine aps.load_on (by kernel_rfl) 34 _ rfl gB rfl _ _ _ _ H10.out.1 Tryz.underlying34 rfl (by kernel_rfl) ?_)
      | (go_at_call 16; (with_reducible refine (HBU.out _).mono ?_); rintro e w11 ⟨rfl, hb11⟩; refine Hid.out ?_))
    have c1 : w11.cell? ⟨gA, 1, none⟩ = some (.int .i64 zA) := (H10.out.2.1.below hb11).cell 1
    have c3 : w11.cell? ⟨gA, 3, none⟩ = some (.int .i64 eA) := (H10.out.2.1.below hb11).cell 3
    have HF := Lib.hid (below_then H4.out.2.2.2.2.1 (below_then H10.out.2.2 hb11))
    clear hb11 H10
    refine Lib.hid ?_
    go_wp2
    go_ret
    exact ⟨rfl, HF.out⟩

/-! ### THE ROW's STEP: WRITTEN OUT: LEAVE IT -/
/-- The door's own heap meets the condition: three closed facts. -/
theorem door_met (os : Os) (args : Array Value) : laidMetH Tryz.prog Rows.fnEnoughEnergyRow.laid ((World.doorLaid Tryz.prog 400 os).forCall (fun _ _ => 0) ⟨#[], args, []⟩).memory :=
  laidMetH_of_parts3 (fuel := 8) (laidMet_of_run' 8 (by kernel_rfl) (by kernel_rfl)) (by kernel_rfl) (by kernel_rfl)

set_option maxRecDepth 100000 in
theorem lifted (os : Os) (started : os.Started) (H : Type) (enc : TypeId × Value → H) :
    ReturnsInHanded {} Tryz.checked os 3 .any (fun w args => (Rows.fnEnoughEnergySpec.pre enc Tryz.prog Tryz.f3 [] false w args ∧ laidMetH Tryz.prog Rows.fnEnoughEnergyRow.laid w) ∧ sizedMet enc Tryz.prog Tryz.f3 (OpenSpec.ofChange Rows.fnEnoughEnergySpec) false w args) (Rows.fnEnoughEnergySpec.post enc Tryz.prog Tryz.f3 false true false false) := by
  refine returnsInHanded_of_change_and (C := Tryz.checked) (X := fun w _ => laidMetH Tryz.prog Rows.fnEnoughEnergyRow.laid w) (fun _ _ _ hh h => h.of_heap hh) own started (by kernel_rfl) Tryz.func3
    (ChangeSpec.witness_shaped (enc := enc) (C := Tryz.checked) (os := os) (X := fun w _ => laidMetH Tryz.prog Rows.fnEnoughEnergyRow.laid w) false (World.doorLaid Tryz.prog 400 os) #[.slice none 0 0] 8 rfl (World.shaped_of_RefB (by kernel_rfl) (by kernel_rfl)) (by kernel_rfl) (by kernel_rfl) (by kernel_rfl) (door_met os _)) ?_
  intro W base args ds gs before hval0 hW hcnd _ hL _
  have hLm : laidMet Tryz.prog Rows.fnEnoughEnergyRow.laid W := by rw [MakeChecks.laidMetH_plain _ _ _ (by kernel_rfl)] at hL; exact hL
  have hval : ∀ (j : Nat) t v, Tryz.f3.params[j]? = some t → args[j]? = some v → Value.okWide Tryz.prog W .any base t v := hval0
  have hW' := hW
  obtain ⟨p, q, hA0, hV, rfl, hfz, hnd⟩ := hW
  have hA : DataW.TrodAll enc Tryz.prog W 0 (fun _ => true) true Tryz.f3.params.toList args.toList ds p := hA0
  rw [Tryz.params3] at hA hval
  obtain ⟨v0, vs0, d0, ds0, p0, q0, hargs, rfl, rfl, h0, r0⟩ := trodAll_cons hA
  obtain ⟨rfl, rfl, rfl⟩ := trodAll_nil r0
  obtain rfl : args = #[v0] := by cases args; simp_all
  obtain ⟨g1, rfl⟩ : ∃ g1, gs = [g1] := by
    obtain ⟨_, _, _, _, d1, _, e1, _⟩ := trodVars_one hV
    exact ⟨d1, e1⟩
  obtain ⟨a0, len0, cap0, rfl⟩ := okWide_slice Tryz.underlying22 (hval 0 22 v0 rfl rfl)
  have k0 := h0
  have lt0 : ∀ x ∈ p0, x.block < W.heap.size := by obtain ⟨m, hm⟩ := k0; exact DataW.trod_lt m _ _ _ hm
  obtain ⟨z0, w0⟩ : ∃ zs, IsRow .u8 W a0 len0 cap0 zs := by
    obtain ⟨fuel, hf⟩ := h0
    rcases open_ints Tryz.underlying22 Tryz.underlying5 (by kernel_rfl) hf with ⟨hcs, _⟩ | ⟨x, l, c, zs, hcs, _, hl, hm, hz, _, hcell, hwz⟩
    · simp [Value.cells] at hcs
      obtain ⟨rfl, rfl, rfl⟩ := hcs
      exact ⟨[], .inl ⟨rfl, rfl, rfl, rfl⟩⟩
    · simp [Value.cells] at hcs
      obtain ⟨rfl, rfl, rfl⟩ := hcs
      exact ⟨zs, .inr ⟨_, rfl, hl, hm, by simpa using hz, hcell, hwz⟩⟩
  clear hA0 hval0
  refine (walk a0 len0 cap0 z0 W w0 hLm).mono fun e W' ⟨he, bel⟩ => ?_
  subst he
  exact ⟨_, rfl, _, _, _, [], _, q, hW', trodAll_mk1 (shut_bool Tryz.underlying4 _), (trodAll_cons_mk (Below.trod laidOut (by kernel_rfl) (of_decide_eq_true (by kernel_rfl)) k0 bel lt0) trodAll_mk0), bel.trodVars laidOut (by kernel_rfl) hV, bel.frame _, fun h => by cases h⟩

theorem over : Rows.fnEnoughEnergyRow.holds Tryz.pinned (OpenSpec.ofChange Rows.fnEnoughEnergySpec) :=
  OpenClaim.holds_of_wide 3 Tryz.f3 rfl rfl rfl rfl rfl rfl rfl ⟨rfl, rfl, rfl, rfl, rfl⟩ rfl rfl rfl rfl rfl (by kernel_rfl) Tryz.func3 (by kernel_rfl)
    (of_decide_eq_true (by kernel_rfl)) (by unfold Func.isWrapper; first | (rw [if_pos (by decide +kernel)]; kernel_rfl) | (rw [if_neg (by decide +kernel)]; exact ⟨rfl, rfl⟩))
    (fun os started H enc _ => lifted os started H enc)

/-- ████ THE STATEMENT: THE TIED CARD ████ -/
theorem proved : Rows.FnEnoughEnergyCardSaid :=
  Claim7.holds_tied_plain_at .later [] [.data] true (true, "89678b23e05d9388c7d7b3961f95b3cb35559b567b202cd024a2e3cd47837206") true
    over (fun _ h => by cases h) (by kernel_rfl) (fun _ h => by cases h) fnEnoughEnergy_row_tie rfl ⟨rfl, rfl⟩ (by kernel_rfl) rfl
    (fun f fn hf hfn => by
      obtain rfl : f = 3 := Option.some.inj ((show Tryz.prog.funcNamed "loop.example/g00983/laws.FnEnoughEnergy" = some 3 by kernel_rfl).symm.trans hf) |>.symm
      obtain rfl : fn = Tryz.f3 := (Option.some.inj (Tryz.func3.symm.trans hfn)).symm
      exact ⟨by kernel_rfl, fun j t ht => by
        rw [Tryz.params3] at ht
        have hm : t ∈ [22] := by simpa using Array.mem_of_getElem? ht
        have hall : ([22].all fun u => !Tryz.prog.wantsStandIn u) = true := by kernel_rfl
        exact (show Tryz.prog.wantsStandIn t = false by simpa using List.all_eq_true.1 hall t hm)⟩)
    (by kernel_rfl)
#print axioms proved
end Go.Proofs.YtmgeecdgebemdaaGreatDoor.fnEnoughEnergy
