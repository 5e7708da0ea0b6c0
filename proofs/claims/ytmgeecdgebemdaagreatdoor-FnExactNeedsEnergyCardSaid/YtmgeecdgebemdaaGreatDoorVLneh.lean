/- For every program, all rows of numbers and every number FnExactNeedsEnergy returns true and leaves its arguments as they were; no condition. -/
import Derived.Test.YtmgeecdgebemdaaGreatDoorRows
import Derived.WalkKit
import Derived.ProofKit
import Derived.OpenShut
import Derived.ShutString
import Derived.ChangeOld
import Derived.Below
import Derived.OpenVars
import Derived.ChangeVars
import Derived.Test.YtmgeecdgebemdaaGreatDoorCards
import Derived.Test.YtmgeecdgebemdaaGreatDoorTie
import Derived.LaidMore
import Derived.Stop.Joined
import Derived.SevenTiedAt
import Derived.MakeChecks
import Derived.Test.YtmgeecdgebemdaaGreatDoorGSigV5
import Derived.Test.YtmgeecdgebemdaaGreatDoorGSigV35
import Derived.Test.YtmgeecdgebemdaaGreatDoorGSigV48
import Derived.Test.YtmgeecdgebemdaaGreatDoorGSigV26
import Derived.Deep.RegionHeld3
namespace Go.Proofs.YtmgeecdgebemdaaGreatDoor.fnExactNeedsEnergy
open Go.ChangeShapes Go.WideShapes Go.ChangeAt Go.RowKit
open Go.ChangeMaps (open_string shut_string)
set_option linter.unusedVariables false
theorem own : ownKnob Tryz.prog.godebug = none := by kernel_rfl
theorem laidOut : laidOutB Tryz.prog = true := by kernel_rfl

/-- A row of numbers that came in: nil, or 'cap' cells that hold 'zs', of which the first 'len' are its elements. -/
def IsRow (k : IntKind) (w : World) (a : Option Addr) (len cap : Nat) (zs : List Int) : Prop :=
  (a = none ∧ len = 0 ∧ cap = 0 ∧ zs = []) ∨
  ∃ x, a = some x ∧ len ≤ cap ∧ cap ≤ maxLen ∧ zs.length = cap ∧ (∀ i, i < zs.length → w.cell? (x.add i) = some (.int k (zs.getD i 0))) ∧ ∀ n ∈ zs, (Lit.int k n).wf = true

open Go.WideMaps Go.WideElems
open Go.Proofs.YtmgeecdgebemdaaGreatDoor.row Go.Proofs.YtmgeecdgebemdaaGreatDoor.val Go.Proofs.YtmgeecdgebemdaaGreatDoor.expr Go.Proofs.YtmgeecdgebemdaaGreatDoor.opn Go.Proofs.YtmgeecdgebemdaaGreatDoor.stm Go.Proofs.YtmgeecdgebemdaaGreatDoor.blk Go.Proofs.YtmgeecdgebemdaaGreatDoor.prg Go.Proofs.YtmgeecdgebemdaaGreatDoor.mrk Go.Proofs.YtmgeecdgebemdaaGreatDoor.exe Go.Proofs.YtmgeecdgebemdaaGreatDoor.trc Go.Proofs.YtmgeecdgebemdaaGreatDoor.bot
theorem row_of {w : World} {a0 : Option Addr} {len0 cap0 : Nat} {z0 : List Int} (w0 : IsRow .i64 w a0 len0 cap0 z0) : Row w a0 len0 (z0.take len0) ∧ len0 ≤ maxLen := by
  rcases w0 with ⟨rfl, rfl, _, rfl⟩ | ⟨x, rfl, hl, hm, hz, hcell, _⟩
  · exact ⟨Row.none_ w, by decide⟩
  · exact ⟨Row.of_ints hl hz hcell, by omega⟩
theorem low_high {u v : Value} {b : Nat} (hv : ∀ q, v.ownBlock = some q → q < b) (hu : ∀ q, u.ownBlock = some q → b ≤ q) : v.ownBlock = none ∨ v.ownBlock ≠ u.ownBlock := by
  cases hq : v.ownBlock with
  | none => exact .inl rfl
  | some q => right; intro e; have := hv q hq; have := hu q e.symm; omega
theorem high_low {u v : Value} {b : Nat} (hv : ∀ q, v.ownBlock = some q → b ≤ q) (hu : ∀ q, u.ownBlock = some q → q < b) : v.ownBlock = none ∨ v.ownBlock ≠ u.ownBlock := by
  cases hq : v.ownBlock with
  | none => exact .inl rfl
  | some q => right; intro e; have := hv q hq; have := hu q e.symm; omega
theorem own_ge {w : World} {base n sz : Nat} {e : TypeId} {v : Value} {xs : List Value} (h : w.ownsRow base e sz v n xs) {b : Nat} (hb : b ≤ base) : ∀ q, v.ownBlock = some q → b ≤ q := fun q hq => Nat.le_trans hb (h.lt q hq).1
theorem none_okx (ad : Option Addr) (n c : Nat) : (Value.slice ad n c).ownBlock = none ∨ (Value.slice ad n c).ownBlock ≠ none := by cases ad <;> simp [Value.ownBlock]
theorem box_apart {v : Value} {g b : Nat} (hg : g < b) (hv : ∀ q, v.ownBlock = some q → b ≤ q) : some g ≠ v.ownBlock := fun e => by have := hv g e.symm; omega
theorem box_apart2 {v : Value} {g b : Nat} (hv : ∀ q, v.ownBlock = some q → q < b) (hg : b ≤ g) : some g ≠ v.ownBlock := fun e => by have := hv g e.symm; omega
theorem len_of {P : List Tk} (hz : Sizes P) : ∀ m ∈ P.map (fun t => t.b.length), m ≤ 1048576 := by
  intro m hm
  obtain ⟨t, ht, rfl⟩ := List.mem_map.1 hm
  exact hz.2 t ht
theorem word_of {w : World} {a0 : Option Addr} {len0 cap0 : Nat} {z0 : List Int} (w0 : IsRow .i64 w a0 len0 cap0 z0) : Go.Proofs.YtmgeecdgebemdaaGreatDoor.trc.i64r ((z0.take len0).getD 8 0) := by
  rw [List.getD_eq_getElem?_getD]
  cases hq : (z0.take len0)[8]? with
  | none => exact ⟨by decide, by decide⟩
  | some x =>
    rcases w0 with ⟨_, _, _, e⟩ | ⟨_, _, _, _, _, _, hwf⟩
    · subst e; simp at hq
    · exact bounds_i64 (hwf x (List.mem_of_mem_take (List.mem_of_getElem? hq)))
set_option maxHeartbeats 8000000 in
set_option maxRecDepth 100000 in
theorem walk (a0 : Value) (a1 : Option Addr) (len1 cap1 : Nat) (z1 : List Int) (a2 : Option Addr) (len2 cap2 : Nat) (z2 : List Int) (a3 : Int) (w : World) (v0 : IsPrgV w a0) (v1 : IsRow .i64 w a1 len1 cap1 z1) (v2 : IsRow .i64 w a2 len2 cap2 z2) (_v3 : (Lit.int .i64 a3).wf = true) (hL : laidMet Tryz.prog Rows.fnExactNeedsEnergyRow.laid w) :
    Calls Tryz.prog 5 #[a0, .slice a1 len1 cap1, .slice a2 len2 cap2, .int .i64 a3] w fun e w' => e = .returned (.bool true) ∧ Below w.heap.size w w' := by
  obtain ⟨ad, n, cap, P, rfl, hnm, hbm, hR⟩ := v0
  have HW8a := word_of v1
  obtain ⟨hR1, hm1⟩ := row_of v1
  clear v1
  unfold maxLen at hm1
  obtain ⟨L1, hL1⟩ : ∃ L, L = z1.take len1 := ⟨_, rfl⟩
  rw [← hL1] at hR1 HW8a
  clear hL1
  obtain ⟨hR2, hm2⟩ := row_of v2
  clear v2
  unfold maxLen at hm2
  obtain ⟨L2, hL2⟩ : ∃ L, L = z2.take len2 := ⟨_, rfl⟩
  rw [← hL2] at hR2
  clear hL2
  have HW8 := Lib.hid HW8a
  clear HW8a
  obtain ⟨x0, hW⟩ : ∃ W, W = w.alloc (.cells #[.slice ad n cap] 40) := ⟨_, rfl⟩
  have hbx : Box w.heap.size #[.slice ad n cap] 40 x0 := by rw [hW]; exact Box.new _ _ _
  have hbw : Below w.heap.size w x0 := by rw [hW]; exact below_new _ _
  have hwl : w.heap.size < x0.heap.size := by rw [hW]; simp
  have HP := Lib.hid (And.intro hbw (And.intro (hR.below hbw) (And.intro hbm hbx)))
  have HW := Lib.hid hW.symm
  have HR1 := Lib.hid (hR1.below hbw)
  have HR2 := Lib.hid (hR2.below hbw)
  have HTB := Lib.hid ((Go.Proofs.YtmgeecdgebemdaaGreatDoor.cst.costs_of (r := []) hL).below hbw)
  clear hL
  clear hbx hbw hR hbm hW hR1 hR2
  by_cases hbig1 : (1048576 : Int) < len1
  · go_enter Tryz.func5, Tryz.ntmps5
    go_wp2
    go_ret
    exact ⟨rfl, below_new _ _⟩
  have hsm1 : (len1 : Int) ≤ 1048576 := by omega
  clear hbig1
  by_cases hbig2 : (1048576 : Int) < len2
  · go_enter Tryz.func5, Tryz.ntmps5
    go_wp2
    go_ret
    exact ⟨rfl, below_new _ _⟩
  have hsm2 : (len2 : Int) ≤ 1048576 := by omega
  clear hbig2
  go_enter Tryz.func5, Tryz.ntmps5
  go_wp2_with (go_at_call 17; rw [HW.out]; (with_reducible refine (szprogram_any _ ad n cap P hnm HP.out.2.2.1 HP.out.2.1).mono ?_); rintro e x1 ⟨rz, rfl, hr0, hr1, hrS, hb1⟩; refine Hid.out ?_)
  have HZ1 := Lib.hid hb1.size
  have H1 := Lib.hid (And.intro (HP.out.2.2.2.below hb1) hb1)
  clear hb1
  by_cases hrn : rz < 0
  · refine Lib.hid ?_
    go_wp2
    go_ret
    exact ⟨rfl, HP.out.1.trans (H1.out.2.mono (Nat.le_of_lt hwl))⟩
  have HZZ := Lib.hid (hrS.out (by omega))
  have hnn : (n : Int) ≤ 1048576 := by have h1 := HZZ.out.1; have h2 := HP.out.2.1.1; omega
  clear hrS
  obtain ⟨xe, hxe⟩ := needIs_ex P L1 L2 a3
  have hrr : (xe != xe) = false := by simp
  have HX := Lib.hid hxe
  clear hxe
  refine Lib.hid ?_
  have HHi_boxp := Lib.hid hwl
  go_wp2_with (first
      | (refine wpList_load_row rfl 40 _ rfl w.heap.size rfl _ _ _ _ H1.out.1 Tryz.underlying40 rfl (by kernel_rfl) ?_)
      | (go_at_call 19; (with_reducible refine (toprogram_box _ ad n cap P HZZ.out (HP.out.2.1.below H1.out.2)).mono ?_); rintro e x2 ⟨bx2, rfl, hT, hb⟩; refine Hid.out ?_))
  have HZ2 := Lib.hid hb.size
  have H2 := Lib.hid (And.intro (H1.out.1.below hb) (And.intro hT.out (below_then H1.out.2 hb)))
  clear hT hb
  refine Lib.hid ?_
  go_wp2_with (go_at_call 20; (with_reducible refine (toInts_new _ a1 len1 cap1 L1 hsm1 (HR1.out.below H2.out.2.2)).mono ?_); rintro e x3 ⟨gx3, rfl, ho, hb⟩; refine Hid.out ?_)
  have HZ3 := Lib.hid hb.size
  have HLo_tr1 := Lib.hid (own_ge ho (Nat.le_refl _))
  have HHi_tr1 := Lib.hid (fun q hq => (ho.lt q hq).2)
  have H3 := Lib.hid (And.intro (H2.out.1.below hb) (And.intro (H2.out.2.1.below hb) (And.intro ho (below_then H2.out.2.2 hb))))
  clear ho hb
  refine Lib.hid ?_
  go_wp2_with (go_at_call 20; (with_reducible refine (toInts_new _ a2 len2 cap2 L2 hsm2 (HR2.out.below H3.out.2.2.2)).mono ?_); rintro e x4 ⟨gx4, rfl, ho, hb⟩; refine Hid.out ?_)
  have HZ4 := Lib.hid hb.size
  have HLo_tr2 := Lib.hid (own_ge ho (Nat.le_refl _))
  have HHi_tr2 := Lib.hid (fun q hq => (ho.lt q hq).2)
  have H4 := Lib.hid (And.intro (H3.out.1.below hb) (And.intro (H3.out.2.1.below hb) (And.intro (H3.out.2.2.1.kept (grown_below hb none) (none_okx _ _ _)) (And.intro ho (below_then H3.out.2.2.2 hb)))))
  clear ho hb
  refine Lib.hid ?_
  go_wp2_with (first
      | (go_at_call 28; (with_reducible refine (spec_need bx2 n n P HZZ.out _ H4.out.2.1.row (some ⟨gx3, 0, none⟩) len1 len1 L1 hsm1 (Nat.le_refl _) (Row.of_own H4.out.2.2.1) (some ⟨gx4, 0, none⟩) len2 len2 L2 hsm2 (Row.of_own H4.out.2.2.2.1) a3 xe HX.out).mono ?_); rintro e x5 ⟨rfl, hb⟩; refine Hid.out ?_))
  have HZ5 := Lib.hid hb.size
  have H5 := Lib.hid (And.intro (H4.out.1.below hb) (below_then H4.out.2.2.2.2 hb))
  clear hb
  refine Lib.hid ?_
  go_wp2_with (first
      | (refine wpList_load_row rfl 40 _ rfl w.heap.size rfl _ _ _ _ H5.out.1 Tryz.underlying40 rfl (by kernel_rfl) ?_)
      | (go_at_call 19; (with_reducible refine (toprogram_box _ ad n cap P HZZ.out (HP.out.2.1.below H5.out.2)).mono ?_); rintro e x6 ⟨bx6, rfl, hT, hb⟩; refine Hid.out ?_))
  have HZ6 := Lib.hid hb.size
  have H6 := Lib.hid (And.intro (H5.out.1.below hb) (And.intro hT.out (And.intro (Below.refl x6.heap.size x6) (below_then H5.out.2 hb))))
  clear hT hb
  refine Lib.hid ?_
  obtain ⟨gp, hgp, hgpl, HMX⟩ := mk_of H6.out.2.1
  subst hgp
  have HMXH := Lib.hid HMX
  clear HMX
  have HA := Lib.hid (And.intro (Box.new x6 #[.slice none 0 0] 26) (below_new x6 (.cells #[.slice none 0 0] 26)))
  go_wp2_with ((refine wpList_store_box rfl 26 _ _ rfl x6.heap.size _ _ HA.out.1 #[.slice (some ⟨gp, 0, none⟩) n n] rfl rfl rfl (by kernel_rfl) (by simp [Value.oneCell']) ?_); intro x7 hx hg; refine Hid.out ?_)
  have hb : Below x6.heap.size x6 x7 := HA.out.2.grown hg HA.out.2.size (fun j hj => by cases hj; exact Nat.le_refl _)
  have HZ7 := Lib.hid hb.size
  have HHi_boxx := Lib.hid hx.lt
  have H7 := Lib.hid (And.intro (H6.out.1.below hb) (And.intro (H6.out.2.1.below hb) (And.intro (below_then H6.out.2.2.1 hb) (And.intro hx (below_then H6.out.2.2.2 hb)))))
  clear hx hg hb HA
  refine Lib.hid ?_
  go_wp2_with (go_at_call 20; (with_reducible refine (toInts_new _ a1 len1 cap1 L1 hsm1 (HR1.out.below H7.out.2.2.2.2)).mono ?_); rintro e x8 ⟨gx8, rfl, ho, hb⟩; refine Hid.out ?_)
  have HZ8 := Lib.hid hb.size
  have HLo_xr1 := Lib.hid (own_ge ho (Nat.le_refl _))
  have HHi_xr1 := Lib.hid (fun q hq => (ho.lt q hq).2)
  have H8 := Lib.hid (And.intro (H7.out.1.below hb) (And.intro (H7.out.2.1.below hb) (And.intro (below_then H7.out.2.2.1 hb) (And.intro (H7.out.2.2.2.1.below hb) (And.intro ho (below_then H7.out.2.2.2.2 hb))))))
  clear ho hb
  refine Lib.hid ?_
  go_wp2_with (go_at_call 20; (with_reducible refine (toInts_new _ a2 len2 cap2 L2 hsm2 (HR2.out.below H8.out.2.2.2.2.2)).mono ?_); rintro e x9 ⟨gx9, rfl, ho, hb⟩; refine Hid.out ?_)
  have HZ9 := Lib.hid hb.size
  have HLo_xr2 := Lib.hid (own_ge ho (Nat.le_refl _))
  have HHi_xr2 := Lib.hid (fun q hq => (ho.lt q hq).2)
  have H9 := Lib.hid (And.intro (H8.out.1.below hb) (And.intro (H8.out.2.1.below hb) (And.intro (below_then H8.out.2.2.1 hb) (And.intro (H8.out.2.2.2.1.below hb) (And.intro (H8.out.2.2.2.2.1.kept (grown_below hb none) (none_okx _ _ _)) (And.intro ho (below_then H8.out.2.2.2.2.2 hb)))))))
  clear ho hb
  refine Lib.hid ?_
  go_wp2_with (first
      | (refine wpList_load_row rfl 26 _ rfl x6.heap.size rfl _ _ _ _ H9.out.2.2.2.1 Tryz.underlying26 rfl (by kernel_rfl) ?_)
      | (go_at_call 14; (with_reducible refine (impl_needs (some ⟨gp, 0, none⟩) n n P HZZ.out (Nat.le_refl _) _ H9.out.2.1.row (some ⟨gx8, 0, none⟩) len1 len1 L1 hsm1 (Nat.le_refl _) (Row.of_own H9.out.2.2.2.2.1) (some ⟨gx9, 0, none⟩) len2 len2 L2 hsm2 (Nat.le_refl _) (Row.of_own H9.out.2.2.2.2.2.1) a3 xe HX.out HW8.out (HTB.out.below H9.out.2.2.2.2.2.2)).mono ?_); rintro e x10 ⟨rfl, hb⟩; refine Hid.out ?_))
  have HZ10 := Lib.hid hb.size
  have H10 := Lib.hid (And.intro (H9.out.1.below hb) (And.intro (H9.out.2.1.below hb) (And.intro (below_then H9.out.2.2.1 hb) (And.intro (H9.out.2.2.2.1.below hb) (And.intro (H9.out.2.2.2.2.1.kept (grown_below hb none) (none_okx _ _ _)) (And.intro (H9.out.2.2.2.2.2.1.kept (grown_below hb none) (none_okx _ _ _)) (below_then H9.out.2.2.2.2.2.2 hb)))))))
  clear hb
  refine Lib.hid ?_
  have HD := Lib.hid (show Below x10.heap.size x10 x10.drew from Below.drew (Below.refl _ x10))
  have c8 : x10.drew.cell? ⟨w.heap.size, 0, none⟩ = some (.slice ad n cap) := H10.out.1.cell 0
  have g8 : x10.drew.cell? ⟨x6.heap.size, 0, none⟩ = some (.slice (some ⟨gp, 0, none⟩) n n) := H10.out.2.2.2.1.cell 0
  have l8 : w.heap.size < x10.drew.heap.size := H10.out.1.lt
  have m8 : x6.heap.size < x10.drew.heap.size := H10.out.2.2.2.1.lt
  go_wp2
  go_region_held3 (fun w' => w'.cell? ⟨w.heap.size, 0, none⟩ = some (.slice ad n cap) ∧ w'.cell? ⟨x6.heap.size, 0, none⟩ = some (.slice (some ⟨gp, 0, none⟩) n n))
    (first
      | (with_reducible exact ⟨c8, g8⟩)
      | (with_reducible exact ⟨(hbb.cell (p := ⟨w.heap.size, 0, none⟩) (Nat.lt_of_lt_of_le l8 hba.size)).trans ((hba.cell (p := ⟨w.heap.size, 0, none⟩) l8).trans c8), (hbb.cell (p := ⟨x6.heap.size, 0, none⟩) (Nat.lt_of_lt_of_le m8 hba.size)).trans ((hba.cell (p := ⟨x6.heap.size, 0, none⟩) m8).trans g8)⟩)
      | (with_reducible exact ⟨(hba.cell (p := ⟨w.heap.size, 0, none⟩) l8).trans c8, (hba.cell (p := ⟨x6.heap.size, 0, none⟩) m8).trans g8⟩))
    (first
      | (go_at_call 19; (with_reducible refine (toprogram_any _ ad n cap P HZZ.out (HP.out.2.1.below (below_then H10.out.2.2.2.2.2.2 HD.out))).mono ?_); rintro e x11 ⟨b9, rfl, hT9, hba⟩)
      | (go_at_call 22; (with_reducible refine (eqprogram_any _ (some ⟨gp, 0, none⟩) b9 n n n P HZZ.out ((H10.out.2.1.row.below HD.out).below hba) hT9.out.row).mono ?_); rintro e x12 ⟨rfl, hbb⟩))
  all_goals
    have hbG := below_then (below_then HD.out hba) hbb
    have HZ11 := Lib.hid (show x10.heap.size ≤ x11.heap.size from hba.size)
    have HZ12 := Lib.hid (show x11.heap.size ≤ x12.heap.size from hbb.size)
    have H11 := Lib.hid (And.intro (H10.out.1.below hbG) (And.intro (H10.out.2.1.below hbG) (And.intro (below_then H10.out.2.2.1 hbG) (And.intro (H10.out.2.2.2.1.below hbG) (And.intro (H10.out.2.2.2.2.1.kept (grown_below hbG none) (none_okx _ _ _)) (And.intro (H10.out.2.2.2.2.2.1.kept (grown_below hbG none) (none_okx _ _ _)) (below_then H10.out.2.2.2.2.2.2 hbG)))))))
    clear hbG hba hbb hT9 c8 g8 l8 m8 HD
    refine Lib.hid ?_
    go_wp2_with (go_at_call 20; (with_reducible refine (toInts_new _ a1 len1 cap1 L1 hsm1 (HR1.out.below H11.out.2.2.2.2.2.2)).mono ?_); rintro e x13 ⟨gx13, rfl, ho, hb⟩; refine Hid.out ?_)
    have HZ13 := Lib.hid hb.size
    have HLo_yr1 := Lib.hid (own_ge ho (Nat.le_refl _))
    have HHi_yr1 := Lib.hid (fun q hq => (ho.lt q hq).2)
    have H12 := Lib.hid (And.intro (H11.out.1.below hb) (And.intro (H11.out.2.1.below hb) (And.intro (below_then H11.out.2.2.1 hb) (And.intro (H11.out.2.2.2.1.below hb) (And.intro (H11.out.2.2.2.2.1.kept (grown_below hb none) (none_okx _ _ _)) (And.intro (H11.out.2.2.2.2.2.1.kept (grown_below hb none) (none_okx _ _ _)) (And.intro ho (below_then H11.out.2.2.2.2.2.2 hb))))))))
    clear ho hb
    refine Lib.hid ?_
    go_wp2_with (go_at_call 23; (with_reducible refine (eqInts_any _ _ _ _ _ _ L1 hsm1 (Row.of_own H12.out.2.2.2.2.1) (Row.of_own H12.out.2.2.2.2.2.2.1)).mono ?_); rintro e x14 ⟨rfl, hg⟩; refine Hid.out ?_)
    have HZ14 := Lib.hid hg.size
    have H13 := Lib.hid (And.intro (H12.out.1.below (below_grown hg)) (And.intro (H12.out.2.1.below (below_grown hg)) (And.intro (below_then H12.out.2.2.1 (below_grown hg)) (And.intro (H12.out.2.2.2.1.below (below_grown hg)) (And.intro (H12.out.2.2.2.2.1.kept (grown_below (below_grown hg) none) (none_okx _ _ _)) (And.intro (H12.out.2.2.2.2.2.1.kept (grown_below (below_grown hg) none) (none_okx _ _ _)) (below_then H12.out.2.2.2.2.2.2.2 (below_grown hg))))))))
    clear hg
    refine Lib.hid ?_
    go_wp2_with (go_at_call 20; (with_reducible refine (toInts_new _ a2 len2 cap2 L2 hsm2 (HR2.out.below H13.out.2.2.2.2.2.2)).mono ?_); rintro e x15 ⟨gx15, rfl, ho, hb⟩; refine Hid.out ?_)
    have HZ15 := Lib.hid hb.size
    have HLo_yr2 := Lib.hid (own_ge ho (Nat.le_refl _))
    have HHi_yr2 := Lib.hid (fun q hq => (ho.lt q hq).2)
    have H14 := Lib.hid (And.intro (H13.out.1.below hb) (And.intro (H13.out.2.1.below hb) (And.intro (below_then H13.out.2.2.1 hb) (And.intro (H13.out.2.2.2.1.below hb) (And.intro (H13.out.2.2.2.2.1.kept (grown_below hb none) (none_okx _ _ _)) (And.intro (H13.out.2.2.2.2.2.1.kept (grown_below hb none) (none_okx _ _ _)) (And.intro ho (below_then H13.out.2.2.2.2.2.2 hb))))))))
    clear ho hb
    refine Lib.hid ?_
    go_wp2_with (go_at_call 23; (with_reducible refine (eqInts_any _ _ _ _ _ _ L2 hsm2 (Row.of_own H14.out.2.2.2.2.2.1) (Row.of_own H14.out.2.2.2.2.2.2.1)).mono ?_); rintro e x16 ⟨rfl, hg⟩; refine Hid.out ?_)
    have HZ16 := Lib.hid hg.size
    have H15 := Lib.hid (And.intro (H14.out.1.below (below_grown hg)) (And.intro (H14.out.2.1.below (below_grown hg)) (And.intro (below_then H14.out.2.2.1 (below_grown hg)) (And.intro (H14.out.2.2.2.1.below (below_grown hg)) (And.intro (H14.out.2.2.2.2.1.kept (grown_below (below_grown hg) none) (none_okx _ _ _)) (And.intro (H14.out.2.2.2.2.2.1.kept (grown_below (below_grown hg) none) (none_okx _ _ _)) (below_then H14.out.2.2.2.2.2.2.2 (below_grown hg))))))))
    clear hg
    refine Lib.hid ?_
    go_wp2
    go_ret
    exact ⟨rfl, HP.out.1.trans (H15.out.2.2.2.2.2.2.mono (Nat.le_of_lt hwl))⟩

/-! ### THE ROW's STEP -/
/-- The door's own heap meets the condition: three closed facts. -/
theorem door_met (os : Os) (args : Array Value) : laidMetH Tryz.prog Rows.fnExactNeedsEnergyRow.laid ((World.doorLaid Tryz.prog 400 os).forCall (fun _ _ => 0) ⟨#[], args, []⟩).memory :=
  laidMetH_of_parts3 (fuel := 8) (laidMet_of_run' 8 (by kernel_rfl) (by kernel_rfl)) (by kernel_rfl) (by kernel_rfl)

set_option maxRecDepth 100000 in
theorem lifted (os : Os) (started : os.Started) (H : Type) (enc : TypeId × Value → H) :
    ReturnsInHanded {} Tryz.checked os 5 .any (fun w args => (Rows.fnExactNeedsEnergySpec.pre enc Tryz.prog Tryz.f5 [] false w args ∧ laidMetH Tryz.prog Rows.fnExactNeedsEnergyRow.laid w) ∧ sizedMet enc Tryz.prog Tryz.f5 (OpenSpec.ofChange Rows.fnExactNeedsEnergySpec) false w args) (Rows.fnExactNeedsEnergySpec.post enc Tryz.prog Tryz.f5 false true false false) := by
  refine returnsInHanded_of_change_and (C := Tryz.checked) (X := fun w _ => laidMetH Tryz.prog Rows.fnExactNeedsEnergyRow.laid w) (fun _ _ _ hh h => h.of_heap hh) own started (by kernel_rfl) Tryz.func5
    (ChangeSpec.witness_shaped (enc := enc) (C := Tryz.checked) (os := os) (X := fun w _ => laidMetH Tryz.prog Rows.fnExactNeedsEnergyRow.laid w) false (World.doorLaid Tryz.prog 400 os) #[.agg #[.slice none 0 0], .slice none 0 0, .slice none 0 0, .int .i64 0] 8 rfl (World.shaped_of_RefB (by kernel_rfl) (by kernel_rfl)) (by kernel_rfl) (by kernel_rfl) (by kernel_rfl) (door_met os _)) ?_
  intro W base args ds gs before hval0 hW hcnd _ hL _
  have hLm : laidMet Tryz.prog Rows.fnExactNeedsEnergyRow.laid W := by rw [MakeChecks.laidMetH_plain _ _ _ (by kernel_rfl)] at hL; exact hL
  have hval : ∀ (j : Nat) t v, Tryz.f5.params[j]? = some t → args[j]? = some v → Value.okWide Tryz.prog W .any base t v := hval0
  have hW' := hW
  obtain ⟨p, q, hA0, hV, rfl, hfz, hnd⟩ := hW
  have hA : DataW.TrodAll enc Tryz.prog W 0 (fun _ => true) true Tryz.f5.params.toList args.toList ds p := hA0
  rw [Tryz.params5] at hA hval
  obtain ⟨v0, vs0, d0, ds0, p0, q0, hargs, rfl, rfl, h0, r0⟩ := trodAll_cons hA
  obtain ⟨v1, vs1, d1, ds1, p1, q1, rfl, rfl, rfl, h1, r1⟩ := trodAll_cons r0
  obtain ⟨v2, vs2, d2, ds2, p2, q2, rfl, rfl, rfl, h2, r2⟩ := trodAll_cons r1
  obtain ⟨v3, vs3, d3, ds3, p3, q3, rfl, rfl, rfl, h3, r3⟩ := trodAll_cons r2
  obtain ⟨rfl, rfl, rfl⟩ := trodAll_nil r3
  obtain rfl : args = #[v0, v1, v2, v3] := by cases args; simp_all
  obtain ⟨g1, rfl⟩ : ∃ g1, gs = [g1] := by
    obtain ⟨_, _, _, _, d1, _, e1, _⟩ := trodVars_one hV
    exact ⟨d1, e1⟩
  have k0 := h0
  have lt0 : ∀ x ∈ p0, x.block < W.heap.size := by obtain ⟨m, hm⟩ := k0; exact DataW.trod_lt m _ _ _ hm
  have w0 : IsPrgV W v0 := open_Program (hval 0 40 v0 rfl rfl) h0
  obtain ⟨a1, len1, cap1, rfl⟩ := okWide_slice Tryz.underlying27 (hval 1 27 v1 rfl rfl)
  have k1 := h1
  have lt1 : ∀ x ∈ p1, x.block < W.heap.size := by obtain ⟨m, hm⟩ := k1; exact DataW.trod_lt m _ _ _ hm
  obtain ⟨z1, w1⟩ : ∃ zs, IsRow .i64 W a1 len1 cap1 zs := by
    obtain ⟨fuel, hf⟩ := h1
    rcases open_ints Tryz.underlying27 Tryz.underlying3 (by kernel_rfl) hf with ⟨hcs, _⟩ | ⟨x, l, c, zs, hcs, _, hl, hm, hz, _, hcell, hwz⟩
    · simp [Value.cells] at hcs
      obtain ⟨rfl, rfl, rfl⟩ := hcs
      exact ⟨[], .inl ⟨rfl, rfl, rfl, rfl⟩⟩
    · simp [Value.cells] at hcs
      obtain ⟨rfl, rfl, rfl⟩ := hcs
      exact ⟨zs, .inr ⟨_, rfl, hl, hm, by simpa using hz, hcell, hwz⟩⟩
  obtain ⟨a2, len2, cap2, rfl⟩ := okWide_slice Tryz.underlying27 (hval 2 27 v2 rfl rfl)
  have k2 := h2
  have lt2 : ∀ x ∈ p2, x.block < W.heap.size := by obtain ⟨m, hm⟩ := k2; exact DataW.trod_lt m _ _ _ hm
  obtain ⟨z2, w2⟩ : ∃ zs, IsRow .i64 W a2 len2 cap2 zs := by
    obtain ⟨fuel, hf⟩ := h2
    rcases open_ints Tryz.underlying27 Tryz.underlying3 (by kernel_rfl) hf with ⟨hcs, _⟩ | ⟨x, l, c, zs, hcs, _, hl, hm, hz, _, hcell, hwz⟩
    · simp [Value.cells] at hcs
      obtain ⟨rfl, rfl, rfl⟩ := hcs
      exact ⟨[], .inl ⟨rfl, rfl, rfl, rfl⟩⟩
    · simp [Value.cells] at hcs
      obtain ⟨rfl, rfl, rfl⟩ := hcs
      exact ⟨zs, .inr ⟨_, rfl, hl, hm, by simpa using hz, hcell, hwz⟩⟩
  obtain ⟨a3, rfl, rfl, rfl, w3⟩ := open_int Tryz.underlying3 (hval 3 3 v3 rfl rfl) h3
  clear hA0 hval0
  refine (walk v0 a1 len1 cap1 z1 a2 len2 cap2 z2 a3 W w0 w1 w2 w3 hLm).mono fun e W' ⟨he, bel⟩ => ?_
  subst he
  exact ⟨_, rfl, _, _, _, [], _, q, hW', trodAll_mk1 (shut_bool Tryz.underlying4 _), (trodAll_cons_mk (Below.trod laidOut (by kernel_rfl) (of_decide_eq_true (by kernel_rfl)) k0 bel lt0) (trodAll_cons_mk (Below.trod laidOut (by kernel_rfl) (of_decide_eq_true (by kernel_rfl)) k1 bel lt1) (trodAll_cons_mk (Below.trod laidOut (by kernel_rfl) (of_decide_eq_true (by kernel_rfl)) k2 bel lt2) (trodAll_cons_mk (shut_int Tryz.underlying3 w3) trodAll_mk0)))), bel.trodVars laidOut (by kernel_rfl) hV, bel.frame _, fun h => by cases h⟩

theorem over : Rows.fnExactNeedsEnergyRow.holds Tryz.pinned (OpenSpec.ofChange Rows.fnExactNeedsEnergySpec) :=
  OpenClaim.holds_of_wide 5 Tryz.f5 rfl rfl rfl rfl rfl rfl rfl ⟨rfl, rfl, rfl, rfl, rfl⟩ rfl rfl rfl rfl rfl (by kernel_rfl) Tryz.func5 (by kernel_rfl)
    (of_decide_eq_true (by kernel_rfl)) (by unfold Func.isWrapper; first | (rw [if_pos (by decide +kernel)]; kernel_rfl) | (rw [if_neg (by decide +kernel)]; exact ⟨rfl, rfl⟩))
    (fun os started H enc _ => lifted os started H enc)

/-- ████ THE STATEMENT: THE TIED CARD ████ -/
theorem proved : Rows.FnExactNeedsEnergyCardSaid :=
  Claim7.holds_tied_plain_at .later [] [.data] true (true, "89678b23e05d9388c7d7b3961f95b3cb35559b567b202cd024a2e3cd47837206") true
    over (fun _ h => by cases h) (by kernel_rfl) (fun _ h => by cases h) fnExactNeedsEnergy_row_tie rfl ⟨rfl, rfl⟩ (by kernel_rfl) rfl
    (fun f fn hf hfn => by
      obtain rfl : f = 5 := Option.some.inj ((show Tryz.prog.funcNamed "loop.example/g00983/laws.FnExactNeedsEnergy" = some 5 by kernel_rfl).symm.trans hf) |>.symm
      obtain rfl : fn = Tryz.f5 := (Option.some.inj (Tryz.func5.symm.trans hfn)).symm
      exact ⟨by kernel_rfl, fun j t ht => by
        rw [Tryz.params5] at ht
        have hm : t ∈ [40, 27, 27, 3] := by simpa using Array.mem_of_getElem? ht
        have hall : ([40, 27, 27, 3].all fun u => !Tryz.prog.wantsStandIn u) = true := by kernel_rfl
        exact (show Tryz.prog.wantsStandIn t = false by simpa using List.all_eq_true.1 hall t hm)⟩)
    (by kernel_rfl)
#print axioms proved
end Go.Proofs.YtmgeecdgebemdaaGreatDoor.fnExactNeedsEnergy
