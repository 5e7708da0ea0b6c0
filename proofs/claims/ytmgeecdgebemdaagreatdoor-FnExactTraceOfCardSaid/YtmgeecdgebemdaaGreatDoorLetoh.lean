/- For every program, all rows of numbers and every number FnExactTraceOf returns true and leaves its arguments as they were; no condition. -/
import Derived.Test.YtmgeecdgebemdaaGreatDoorRows
import Derived.WalkKit
import Derived.ProofKit
import Derived.OpenShut
import Derived.ShutString
import Derived.ChangeOld
import Derived.Below
import Derived.OpenVars
import Derived.ChangeVars
import Derived.Test.YtmgeecdgebemdaaGreatDoorCards
import Derived.Test.YtmgeecdgebemdaaGreatDoorTie
import Derived.LaidMore
import Derived.Stop.Joined
import Derived.SevenTiedAt
import Derived.MakeChecks
import Derived.Test.YtmgeecdgebemdaaGreatDoorGSig49
import Derived.Test.YtmgeecdgebemdaaGreatDoorGSig6
import Derived.Test.YtmgeecdgebemdaaGreatDoorGSig52
import Derived.Test.YtmgeecdgebemdaaGreatDoorGSig53
import Derived.Test.YtmgeecdgebemdaaGreatDoorGSig37
import Derived.Deep.RegionHeld3
namespace Go.Proofs.YtmgeecdgebemdaaGreatDoor.fnExactTraceOf
open Go.ChangeShapes Go.WideShapes Go.ChangeAt Go.RowKit
open Go.ChangeMaps (open_string shut_string)
set_option linter.unusedVariables false

theorem own : ownKnob Tryz.prog.godebug = none := by kernel_rfl
theorem laidOut : laidOutB Tryz.prog = true := by kernel_rfl

/-- A row of numbers that came in: nil, or 'cap' cells that hold 'zs', of which the first 'len' are its elements. -/
def IsRow (k : IntKind) (w : World) (a : Option Addr) (len cap : Nat) (zs : List Int) : Prop :=
  (a = none ∧ len = 0 ∧ cap = 0 ∧ zs = []) ∨
  ∃ x, a = some x ∧ len ≤ cap ∧ cap ≤ maxLen ∧ zs.length = cap ∧ (∀ i, i < zs.length → w.cell? (x.add i) = some (.int k (zs.getD i 0))) ∧ ∀ n ∈ zs, (Lit.int k n).wf = true

open Go.WideMaps Go.WideElems
open Go.Proofs.YtmgeecdgebemdaaGreatDoor.row Go.Proofs.YtmgeecdgebemdaaGreatDoor.val Go.Proofs.YtmgeecdgebemdaaGreatDoor.expr Go.Proofs.YtmgeecdgebemdaaGreatDoor.opn Go.Proofs.YtmgeecdgebemdaaGreatDoor.stm Go.Proofs.YtmgeecdgebemdaaGreatDoor.blk Go.Proofs.YtmgeecdgebemdaaGreatDoor.prg Go.Proofs.YtmgeecdgebemdaaGreatDoor.mrk Go.Proofs.YtmgeecdgebemdaaGreatDoor.exe Go.Proofs.YtmgeecdgebemdaaGreatDoor.trc Go.Proofs.YtmgeecdgebemdaaGreatDoor.grow
theorem row_of {w : World} {a0 : Option Addr} {len0 cap0 : Nat} {z0 : List Int} (w0 : IsRow .i64 w a0 len0 cap0 z0) : Row w a0 len0 (z0.take len0) ∧ len0 ≤ maxLen := by
  rcases w0 with ⟨rfl, rfl, _, rfl⟩ | ⟨x, rfl, hl, hm, hz, hcell, _⟩
  · exact ⟨Row.none_ w, by decide⟩
  · exact ⟨Row.of_ints hl hz hcell, by omega⟩
theorem word_of {w : World} {a0 : Option Addr} {len0 cap0 : Nat} {z0 : List Int} (w0 : IsRow .i64 w a0 len0 cap0 z0) : Go.Proofs.YtmgeecdgebemdaaGreatDoor.trc.i64r ((z0.take len0).getD 8 0) := by
  rw [List.getD_eq_getElem?_getD]
  cases hq : (z0.take len0)[8]? with
  | none => exact ⟨by decide, by decide⟩
  | some x =>
    rcases w0 with ⟨_, _, _, e⟩ | ⟨_, _, _, _, _, _, hwf⟩
    · subst e; simp at hq
    · exact bounds_i64 (hwf x (List.mem_of_mem_take (List.mem_of_getElem? hq)))
theorem low_high {u v : Value} {b : Nat} (hv : ∀ q, v.ownBlock = some q → q < b) (hu : ∀ q, u.ownBlock = some q → b ≤ q) : v.ownBlock = none ∨ v.ownBlock ≠ u.ownBlock := by
  cases hq : v.ownBlock with
  | none => exact .inl rfl
  | some q => right; intro e; have := hv q hq; have := hu q e.symm; omega
theorem high_low {u v : Value} {b : Nat} (hv : ∀ q, v.ownBlock = some q → b ≤ q) (hu : ∀ q, u.ownBlock = some q → q < b) : v.ownBlock = none ∨ v.ownBlock ≠ u.ownBlock := by
  cases hq : v.ownBlock with
  | none => exact .inl rfl
  | some q => right; intro e; have := hv q hq; have := hu q e.symm; omega
theorem own_ge {w : World} {base n sz : Nat} {e : TypeId} {v : Value} {xs : List Value} (h : w.ownsRow base e sz v n xs) {b : Nat} (hb : b ≤ base) : ∀ q, v.ownBlock = some q → b ≤ q := fun q hq => Nat.le_trans hb (h.lt q hq).1
theorem none_okx (ad : Option Addr) (n c : Nat) : (Value.slice ad n c).ownBlock = none ∨ (Value.slice ad n c).ownBlock ≠ none := by cases ad <;> simp [Value.ownBlock]
theorem box_apart {v : Value} {g b : Nat} (hg : g < b) (hv : ∀ q, v.ownBlock = some q → b ≤ q) : some g ≠ v.ownBlock := fun e => by have := hv g e.symm; omega
theorem box_apart2 {v : Value} {g b : Nat} (hv : ∀ q, v.ownBlock = some q → q < b) (hg : b ≤ g) : some g ≠ v.ownBlock := fun e => by have := hv g e.symm; omega
theorem len_of {P : List Tk} (hz : Sizes P) : ∀ m ∈ P.map (fun t => t.b.length), m ≤ 1048576 := by
  intro m hm
  obtain ⟨t, ht, rfl⟩ := List.mem_map.1 hm
  exact hz.2 t ht
set_option maxHeartbeats 8000000 in
set_option maxRecDepth 100000 in
theorem walk (a0 : Value) (a1 : Option Addr) (len1 cap1 : Nat) (z1 : List Int) (a2 : Option Addr) (len2 cap2 : Nat) (z2 : List Int) (a3 : Int) (w : World) (v0 : IsPrgV w a0) (v1 : IsRow .i64 w a1 len1 cap1 z1) (v2 : IsRow .i64 w a2 len2 cap2 z2) (_v3 : (Lit.int .i64 a3).wf = true) (hL : laidMet Tryz.prog Rows.fnExactTraceOfRow.laid w) :
    Calls Tryz.prog 8 #[a0, .slice a1 len1 cap1, .slice a2 len2 cap2, .int .i64 a3] w fun e w' => e = .returned (.bool true) ∧ Below w.heap.size w w' := by
  obtain ⟨ad, n, cap, P, rfl, hnm, hbm, hR⟩ := v0
  have HW8a := word_of v1
  obtain ⟨hR1, hm1⟩ := row_of v1
  clear v1
  unfold maxLen at hm1
  obtain ⟨L1, hL1⟩ : ∃ L, L = z1.take len1 := ⟨_, rfl⟩
  rw [← hL1] at hR1 HW8a
  have HW8 := Lib.hid HW8a
  clear HW8a
  clear hL1
  obtain ⟨hR2, hm2⟩ := row_of v2
  clear v2
  unfold maxLen at hm2
  obtain ⟨L2, hL2⟩ : ∃ L, L = z2.take len2 := ⟨_, rfl⟩
  rw [← hL2] at hR2
  clear hL2
  obtain ⟨x0, hW⟩ : ∃ W, W = w.alloc (.cells #[.slice ad n cap] 40) := ⟨_, rfl⟩
  have hbx : Box w.heap.size #[.slice ad n cap] 40 x0 := by rw [hW]; exact Box.new _ _ _
  have hbw : Below w.heap.size w x0 := by rw [hW]; exact below_new _ _
  have hwl : w.heap.size < x0.heap.size := by rw [hW]; simp
  have HTB := Lib.hid ((Go.Proofs.YtmgeecdgebemdaaGreatDoor.cst.costs_of (r := []) hL).below hbw)
  clear hL
  have HP := Lib.hid (And.intro hbw (And.intro (hR.below hbw) (And.intro hbm hbx)))
  have HW := Lib.hid hW.symm
  have HR1 := Lib.hid (hR1.below hbw)
  have HR2 := Lib.hid (hR2.below hbw)
  clear hbx hbw hR hbm hW hR1 hR2
  by_cases hbig1 : (1048576 : Int) < len1
  · go_enter Tryz.func8, Tryz.ntmps8
    go_wp2
    go_ret
    exact ⟨rfl, below_new _ _⟩
  have hsm1 : (len1 : Int) ≤ 1048576 := by omega
  clear hbig1
  by_cases hbig2 : (1048576 : Int) < len2
  · go_enter Tryz.func8, Tryz.ntmps8
    go_wp2
    go_ret
    exact ⟨rfl, below_new _ _⟩
  have hsm2 : (len2 : Int) ≤ 1048576 := by omega
  clear hbig2
  go_enter Tryz.func8, Tryz.ntmps8
  go_wp2_with (go_at_call 17; rw [HW.out]; (with_reducible refine (szprogram_any _ ad n cap P hnm HP.out.2.2.1 HP.out.2.1).mono ?_); rintro e x1 ⟨rz, rfl, hr0, hr1, hrS, hb1⟩; refine Hid.out ?_)
  have HZ1 := Lib.hid hb1.size
  have H1 := Lib.hid (And.intro (HP.out.2.2.2.below hb1) hb1)
  clear hb1
  by_cases hrn : rz < 0
  · refine Lib.hid ?_
    go_wp2
    go_ret
    exact ⟨rfl, HP.out.1.trans (H1.out.2.mono (Nat.le_of_lt hwl))⟩
  have HZZ := Lib.hid (hrS.out (by omega))
  have hnn : (n : Int) ≤ 1048576 := by have h1 := HZZ.out.1; have h2 := HP.out.2.1.1; omega
  clear hrS
  obtain ⟨r, M, U, hE⟩ := traceIs_ex P L1 L2 a3
  obtain ⟨hEV, hES⟩ := hE.size
  have hrr : (r != r) = false := by simp
  have HE := Lib.hid hE
  clear hE
  refine Lib.hid ?_
  have HHi_boxp := Lib.hid hwl
  go_wp2_with (first
      | (refine wpList_load_row rfl 40 _ rfl w.heap.size rfl _ _ _ _ H1.out.1 Tryz.underlying40 rfl (by kernel_rfl) ?_)
      | (go_at_call 19; (with_reducible refine (toprogram_box _ ad n cap P HZZ.out (HP.out.2.1.below H1.out.2)).mono ?_); rintro e x2 ⟨bx2, rfl, hT, hb⟩; refine Hid.out ?_))
  have HZ2 := Lib.hid hb.size
  have H2 := Lib.hid (And.intro (H1.out.1.below hb) (And.intro hT.out (below_then H1.out.2 hb)))
  clear hT hb
  refine Lib.hid ?_
  go_wp2_with (go_at_call 20; (with_reducible refine (toInts_new _ a1 len1 cap1 L1 hsm1 (HR1.out.below H2.out.2.2)).mono ?_); rintro e x3 ⟨gx3, rfl, ho, hb⟩; refine Hid.out ?_)
  have HZ3 := Lib.hid hb.size
  have HLo_tr1 := Lib.hid (own_ge ho (Nat.le_refl _))
  have HHi_tr1 := Lib.hid (fun q hq => (ho.lt q hq).2)
  have H3 := Lib.hid (And.intro (H2.out.1.below hb) (And.intro (H2.out.2.1.below hb) (And.intro ho (below_then H2.out.2.2 hb))))
  clear ho hb
  refine Lib.hid ?_
  go_wp2_with (go_at_call 20; (with_reducible refine (toInts_new _ a2 len2 cap2 L2 hsm2 (HR2.out.below H3.out.2.2.2)).mono ?_); rintro e x4 ⟨gx4, rfl, ho, hb⟩; refine Hid.out ?_)
  have HZ4 := Lib.hid hb.size
  have HLo_tr2 := Lib.hid (own_ge ho (Nat.le_refl _))
  have HHi_tr2 := Lib.hid (fun q hq => (ho.lt q hq).2)
  have H4 := Lib.hid (And.intro (H3.out.1.below hb) (And.intro (H3.out.2.1.below hb) (And.intro (H3.out.2.2.1.kept (grown_below hb none) (none_okx _ _ _)) (And.intro ho (below_then H3.out.2.2.2 hb)))))
  clear ho hb
  refine Lib.hid ?_
  go_wp2_with (first
      | (go_at_call 41; (with_reducible refine (spec_traceof bx2 n n P HZZ.out _ H4.out.2.1.row (some ⟨gx3, 0, none⟩) len1 len1 L1 hsm1 (Nat.le_refl _) (Row.of_own H4.out.2.2.1) (some ⟨gx4, 0, none⟩) len2 len2 L2 hsm2 (Row.of_own H4.out.2.2.2.1) a3 r M U HE.out).mono ?_); rintro e x5 ⟨avx5, mvx5, cvx5, asx5, msx5, csx5, rfl, hm, hb⟩; refine Hid.out ?_))
  have HZ5 := Lib.hid hb.size
  obtain ⟨ho1, ho2, hap⟩ := hm
  have HLo_res0v := Lib.hid (own_ge ho1 (Nat.le_refl _))
  have HHi_res0v := Lib.hid (fun q hq => (ho1.lt q hq).2)
  have HLo_res0s := Lib.hid (own_ge ho2 (Nat.le_refl _))
  have HHi_res0s := Lib.hid (fun q hq => (ho2.lt q hq).2)
  have HAP_res0 := Lib.hid hap
  clear hap
  have hlv : M.length = mvx5 := mlen_own ho1
  have hls : U.length = msx5 := own_len ho2
  have H5 := Lib.hid (And.intro (H4.out.1.below hb) (And.intro ho1 (And.intro ho2 (below_then H4.out.2.2.2.2 hb))))
  clear ho1 ho2 hb
  refine Lib.hid ?_
  have HA := Lib.hid (And.intro (Box.new x5 zero2T 54) (below_new x5 (.cells zero2T 54)))
  go_wp2_with ((refine wpList_store_box rfl 54 _ _ rfl x5.heap.size _ _ HA.out.1 #[.slice avx5 mvx5 cvx5, .slice asx5 msx5 csx5] rfl rfl rfl (by kernel_rfl) (by simp [Value.oneCell']) ?_); intro x6 hx hg; refine Hid.out ?_)
  have hb : Below x5.heap.size x5 x6 := HA.out.2.grown hg HA.out.2.size (fun j hj => by cases hj; exact Nat.le_refl _)
  have HZ6 := Lib.hid hb.size
  have HHi_eres0 := Lib.hid hx.lt
  have H6 := Lib.hid (And.intro (H5.out.1.below hb) (And.intro (H5.out.2.1.kept (grown_below hb none) (none_okx _ _ _)) (And.intro (H5.out.2.2.1.kept (grown_below hb none) (none_okx _ _ _)) (And.intro hx (below_then H5.out.2.2.2 hb)))))
  clear hx hg hb HA
  refine Lib.hid ?_
  go_wp2_with (first
      | (refine wpList_load_row rfl 40 _ rfl w.heap.size rfl _ _ _ _ H6.out.1 Tryz.underlying40 rfl (by kernel_rfl) ?_)
      | (go_at_call 19; (with_reducible refine (toprogram_box _ ad n cap P HZZ.out (HP.out.2.1.below H6.out.2.2.2.2)).mono ?_); rintro e x7 ⟨bx7, rfl, hT, hb⟩; refine Hid.out ?_))
  have HZ7 := Lib.hid hb.size
  have H7 := Lib.hid (And.intro (H6.out.1.below hb) (And.intro (H6.out.2.1.kept (grown_below hb none) (none_okx _ _ _)) (And.intro (H6.out.2.2.1.kept (grown_below hb none) (none_okx _ _ _)) (And.intro (H6.out.2.2.2.1.below hb) (And.intro hT.out (And.intro (Below.refl x7.heap.size x7) (below_then H6.out.2.2.2.2 hb)))))))
  clear hT hb
  refine Lib.hid ?_
  obtain ⟨gp, hgp, hgpl, HMX⟩ := mk_of H7.out.2.2.2.2.1
  subst hgp
  have HMXH := Lib.hid HMX
  clear HMX
  have HA := Lib.hid (And.intro (Box.new x7 #[.slice none 0 0] 26) (below_new x7 (.cells #[.slice none 0 0] 26)))
  go_wp2_with ((refine wpList_store_box rfl 26 _ _ rfl x7.heap.size _ _ HA.out.1 #[.slice (some ⟨gp, 0, none⟩) n n] rfl rfl rfl (by kernel_rfl) (by simp [Value.oneCell']) ?_); intro x8 hx hg; refine Hid.out ?_)
  have hb : Below x7.heap.size x7 x8 := HA.out.2.grown hg HA.out.2.size (fun j hj => by cases hj; exact Nat.le_refl _)
  have HZ8 := Lib.hid hb.size
  have HHi_boxx := Lib.hid hx.lt
  have H8 := Lib.hid (And.intro (H7.out.1.below hb) (And.intro (H7.out.2.1.kept (grown_below hb none) (none_okx _ _ _)) (And.intro (H7.out.2.2.1.kept (grown_below hb none) (none_okx _ _ _)) (And.intro (H7.out.2.2.2.1.below hb) (And.intro (H7.out.2.2.2.2.1.below hb) (And.intro (below_then H7.out.2.2.2.2.2.1 hb) (And.intro hx (below_then H7.out.2.2.2.2.2.2 hb))))))))
  clear hx hg hb HA
  refine Lib.hid ?_
  go_wp2_with (go_at_call 20; (with_reducible refine (toInts_new _ a1 len1 cap1 L1 hsm1 (HR1.out.below H8.out.2.2.2.2.2.2.2)).mono ?_); rintro e x9 ⟨gx9, rfl, ho, hb⟩; refine Hid.out ?_)
  have HZ9 := Lib.hid hb.size
  have HLo_xr1 := Lib.hid (own_ge ho (Nat.le_refl _))
  have HHi_xr1 := Lib.hid (fun q hq => (ho.lt q hq).2)
  have H9 := Lib.hid (And.intro (H8.out.1.below hb) (And.intro (H8.out.2.1.kept (grown_below hb none) (none_okx _ _ _)) (And.intro (H8.out.2.2.1.kept (grown_below hb none) (none_okx _ _ _)) (And.intro (H8.out.2.2.2.1.below hb) (And.intro (H8.out.2.2.2.2.1.below hb) (And.intro (below_then H8.out.2.2.2.2.2.1 hb) (And.intro (H8.out.2.2.2.2.2.2.1.below hb) (And.intro ho (below_then H8.out.2.2.2.2.2.2.2 hb)))))))))
  clear ho hb
  refine Lib.hid ?_
  go_wp2_with (go_at_call 20; (with_reducible refine (toInts_new _ a2 len2 cap2 L2 hsm2 (HR2.out.below H9.out.2.2.2.2.2.2.2.2)).mono ?_); rintro e x10 ⟨gx10, rfl, ho, hb⟩; refine Hid.out ?_)
  have HZ10 := Lib.hid hb.size
  have HLo_xr2 := Lib.hid (own_ge ho (Nat.le_refl _))
  have HHi_xr2 := Lib.hid (fun q hq => (ho.lt q hq).2)
  have H10 := Lib.hid (And.intro (H9.out.1.below hb) (And.intro (H9.out.2.1.kept (grown_below hb none) (none_okx _ _ _)) (And.intro (H9.out.2.2.1.kept (grown_below hb none) (none_okx _ _ _)) (And.intro (H9.out.2.2.2.1.below hb) (And.intro (H9.out.2.2.2.2.1.below hb) (And.intro (below_then H9.out.2.2.2.2.2.1 hb) (And.intro (H9.out.2.2.2.2.2.2.1.below hb) (And.intro (H9.out.2.2.2.2.2.2.2.1.kept (grown_below hb none) (none_okx _ _ _)) (And.intro ho (below_then H9.out.2.2.2.2.2.2.2.2 hb))))))))))
  clear ho hb
  refine Lib.hid ?_
  go_wp2_with (first
      | (refine wpList_load_row rfl 26 _ rfl x7.heap.size rfl _ _ _ _ H10.out.2.2.2.2.2.2.1 Tryz.underlying26 rfl (by kernel_rfl) ?_)
      | (go_at_call 29; (with_reducible refine (impl_traceof (some ⟨gp, 0, none⟩) n n P HZZ.out (Nat.le_refl _) _ H10.out.2.2.2.2.1.row (some ⟨gx9, 0, none⟩) len1 len1 L1 hsm1 (Nat.le_refl _) (Row.of_own H10.out.2.2.2.2.2.2.2.1) (some ⟨gx10, 0, none⟩) len2 len2 L2 hsm2 (Nat.le_refl _) (Row.of_own H10.out.2.2.2.2.2.2.2.2.1) a3 r M U HE.out HW8.out (HTB.out.below H10.out.2.2.2.2.2.2.2.2.2)).mono ?_); rintro e x11 ⟨avx11, mvx11, cvx11, asx11, msx11, csx11, rfl, hm, hb⟩; refine Hid.out ?_))
  have HZ11 := Lib.hid hb.size
  obtain ⟨ho1, ho2, hap⟩ := hm
  have HLo_res1v := Lib.hid (own_ge ho1 (Nat.le_refl _))
  have HHi_res1v := Lib.hid (fun q hq => (ho1.lt q hq).2)
  have HLo_res1s := Lib.hid (own_ge ho2 (Nat.le_refl _))
  have HHi_res1s := Lib.hid (fun q hq => (ho2.lt q hq).2)
  have HAP_res1 := Lib.hid hap
  clear hap
  have hlv' : M.length = mvx11 := mlen_own ho1
  have hls' : U.length = msx11 := own_len ho2
  obtain rfl : mvx5 = mvx11 := by omega
  obtain rfl : msx5 = msx11 := by omega
  clear hlv' hls'
  have H11 := Lib.hid (And.intro (H10.out.1.below hb) (And.intro (H10.out.2.1.kept (grown_below hb none) (none_okx _ _ _)) (And.intro (H10.out.2.2.1.kept (grown_below hb none) (none_okx _ _ _)) (And.intro (H10.out.2.2.2.1.below hb) (And.intro (H10.out.2.2.2.2.1.below hb) (And.intro (below_then H10.out.2.2.2.2.2.1 hb) (And.intro (H10.out.2.2.2.2.2.2.1.below hb) (And.intro (H10.out.2.2.2.2.2.2.2.1.kept (grown_below hb none) (none_okx _ _ _)) (And.intro (H10.out.2.2.2.2.2.2.2.2.1.kept (grown_below hb none) (none_okx _ _ _)) (And.intro ho1 (And.intro ho2 (below_then H10.out.2.2.2.2.2.2.2.2.2 hb))))))))))))
  clear ho1 ho2 hb
  refine Lib.hid ?_
  have HA := Lib.hid (And.intro (Box.new x11 zero2T 54) (below_new x11 (.cells zero2T 54)))
  go_wp2_with ((refine wpList_store_box rfl 54 _ _ rfl x11.heap.size _ _ HA.out.1 #[.slice avx11 mvx5 cvx11, .slice asx11 msx5 csx11] rfl rfl rfl (by kernel_rfl) (by simp [Value.oneCell']) ?_); intro x12 hx hg; refine Hid.out ?_)
  have hb : Below x11.heap.size x11 x12 := HA.out.2.grown hg HA.out.2.size (fun j hj => by cases hj; exact Nat.le_refl _)
  have HZ12 := Lib.hid hb.size
  have HHi_eres1 := Lib.hid hx.lt
  have H12 := Lib.hid (And.intro (H11.out.1.below hb) (And.intro (H11.out.2.1.kept (grown_below hb none) (none_okx _ _ _)) (And.intro (H11.out.2.2.1.kept (grown_below hb none) (none_okx _ _ _)) (And.intro (H11.out.2.2.2.1.below hb) (And.intro (H11.out.2.2.2.2.1.below hb) (And.intro (below_then H11.out.2.2.2.2.2.1 hb) (And.intro (H11.out.2.2.2.2.2.2.1.below hb) (And.intro (H11.out.2.2.2.2.2.2.2.1.kept (grown_below hb none) (none_okx _ _ _)) (And.intro (H11.out.2.2.2.2.2.2.2.2.1.kept (grown_below hb none) (none_okx _ _ _)) (And.intro (H11.out.2.2.2.2.2.2.2.2.2.1.kept (grown_below hb none) (none_okx _ _ _)) (And.intro (H11.out.2.2.2.2.2.2.2.2.2.2.1.kept (grown_below hb none) (none_okx _ _ _)) (And.intro hx (below_then H11.out.2.2.2.2.2.2.2.2.2.2.2 hb)))))))))))))
  clear hx hg hb HA
  refine Lib.hid ?_
  have q0 : x12.cell? ⟨x11.heap.size, 0, none⟩ = some (.slice avx11 mvx5 cvx11) := H12.out.2.2.2.2.2.2.2.2.2.2.2.1.cell 0
  have q1 : x12.cell? ⟨x11.heap.size, 1, none⟩ = some (.slice asx11 msx5 csx11) := H12.out.2.2.2.2.2.2.2.2.2.2.2.1.cell 1
  have p0 : x12.cell? ⟨x5.heap.size, 0, none⟩ = some (.slice avx5 mvx5 cvx5) := H12.out.2.2.2.1.cell 0
  have p1 : x12.cell? ⟨x5.heap.size, 1, none⟩ = some (.slice asx5 msx5 csx5) := H12.out.2.2.2.1.cell 1
  have HTQ := Lib.hid (eqtrace_any x12 M U avx11 mvx5 cvx11 asx11 msx5 csx11 avx5 cvx5 asx5 csx5 ⟨mrow_own H12.out.2.2.2.2.2.2.2.2.2.1, (Row.of_own H12.out.2.2.2.2.2.2.2.2.2.2.1), by omega, by omega⟩ ⟨mrow_own H12.out.2.1, (Row.of_own H12.out.2.2.1), by omega, by omega⟩)
  go_wp2_with (go_at_call 42; (with_reducible refine HTQ.out.mono ?_); rintro e x13 ⟨rfl, hb⟩; refine Hid.out ?_)
  have HZ13 := Lib.hid hb.size
  have H13 := Lib.hid (And.intro (H12.out.1.below hb) (And.intro (H12.out.2.1.kept (grown_below hb none) (none_okx _ _ _)) (And.intro (H12.out.2.2.1.kept (grown_below hb none) (none_okx _ _ _)) (And.intro (H12.out.2.2.2.1.below hb) (And.intro (H12.out.2.2.2.2.1.below hb) (And.intro (below_then H12.out.2.2.2.2.2.1 hb) (And.intro (H12.out.2.2.2.2.2.2.1.below hb) (And.intro (H12.out.2.2.2.2.2.2.2.1.kept (grown_below hb none) (none_okx _ _ _)) (And.intro (H12.out.2.2.2.2.2.2.2.2.1.kept (grown_below hb none) (none_okx _ _ _)) (And.intro (H12.out.2.2.2.2.2.2.2.2.2.1.kept (grown_below hb none) (none_okx _ _ _)) (And.intro (H12.out.2.2.2.2.2.2.2.2.2.2.1.kept (grown_below hb none) (none_okx _ _ _)) (And.intro (H12.out.2.2.2.2.2.2.2.2.2.2.2.1.below hb) (below_then H12.out.2.2.2.2.2.2.2.2.2.2.2.2 hb)))))))))))))
  clear hb q0 q1 p0 p1
  refine Lib.hid ?_
  have HD := Lib.hid (show Below x13.heap.size x13 x13.drew from Below.drew (Below.refl _ x13))
  have c8 : x13.drew.cell? ⟨w.heap.size, 0, none⟩ = some (.slice ad n cap) := H13.out.1.cell 0
  have g8 : x13.drew.cell? ⟨x7.heap.size, 0, none⟩ = some (.slice (some ⟨gp, 0, none⟩) n n) := H13.out.2.2.2.2.2.2.1.cell 0
  have l8 : w.heap.size < x13.drew.heap.size := H13.out.1.lt
  have m8 : x7.heap.size < x13.drew.heap.size := H13.out.2.2.2.2.2.2.1.lt
  go_wp2
  go_region_held3 (fun w' => w'.cell? ⟨w.heap.size, 0, none⟩ = some (.slice ad n cap) ∧ w'.cell? ⟨x7.heap.size, 0, none⟩ = some (.slice (some ⟨gp, 0, none⟩) n n))
    (first
      | (with_reducible exact ⟨c8, g8⟩)
      | (with_reducible exact ⟨(hbb.cell (p := ⟨w.heap.size, 0, none⟩) (Nat.lt_of_lt_of_le l8 hba.size)).trans ((hba.cell (p := ⟨w.heap.size, 0, none⟩) l8).trans c8), (hbb.cell (p := ⟨x7.heap.size, 0, none⟩) (Nat.lt_of_lt_of_le m8 hba.size)).trans ((hba.cell (p := ⟨x7.heap.size, 0, none⟩) m8).trans g8)⟩)
      | (with_reducible exact ⟨(hba.cell (p := ⟨w.heap.size, 0, none⟩) l8).trans c8, (hba.cell (p := ⟨x7.heap.size, 0, none⟩) m8).trans g8⟩))
    (first
      | (go_at_call 19; (with_reducible refine (toprogram_any _ ad n cap P HZZ.out (HP.out.2.1.below (below_then H13.out.2.2.2.2.2.2.2.2.2.2.2.2 HD.out))).mono ?_); rintro e x14 ⟨b9, rfl, hT9, hba⟩)
      | (go_at_call 22; (with_reducible refine (eqprogram_any _ (some ⟨gp, 0, none⟩) b9 n n n P HZZ.out ((H13.out.2.2.2.2.1.row.below HD.out).below hba) hT9.out.row).mono ?_); rintro e x15 ⟨rfl, hbb⟩))
  all_goals
    have hbG := below_then (below_then HD.out hba) hbb
    have HZ14 := Lib.hid (show x13.heap.size ≤ x14.heap.size from hba.size)
    have HZ15 := Lib.hid (show x14.heap.size ≤ x15.heap.size from hbb.size)
    have H14 := Lib.hid (And.intro (H13.out.1.below hbG) (And.intro (H13.out.2.1.kept (grown_below hbG none) (none_okx _ _ _)) (And.intro (H13.out.2.2.1.kept (grown_below hbG none) (none_okx _ _ _)) (And.intro (H13.out.2.2.2.1.below hbG) (And.intro (H13.out.2.2.2.2.1.below hbG) (And.intro (below_then H13.out.2.2.2.2.2.1 hbG) (And.intro (H13.out.2.2.2.2.2.2.1.below hbG) (And.intro (H13.out.2.2.2.2.2.2.2.1.kept (grown_below hbG none) (none_okx _ _ _)) (And.intro (H13.out.2.2.2.2.2.2.2.2.1.kept (grown_below hbG none) (none_okx _ _ _)) (And.intro (H13.out.2.2.2.2.2.2.2.2.2.1.kept (grown_below hbG none) (none_okx _ _ _)) (And.intro (H13.out.2.2.2.2.2.2.2.2.2.2.1.kept (grown_below hbG none) (none_okx _ _ _)) (And.intro (H13.out.2.2.2.2.2.2.2.2.2.2.2.1.below hbG) (below_then H13.out.2.2.2.2.2.2.2.2.2.2.2.2 hbG)))))))))))))
    clear hbG hba hbb hT9 c8 g8 l8 m8 HD
    refine Lib.hid ?_
    go_wp2_with (go_at_call 20; (with_reducible refine (toInts_new _ a1 len1 cap1 L1 hsm1 (HR1.out.below H14.out.2.2.2.2.2.2.2.2.2.2.2.2)).mono ?_); rintro e x16 ⟨gx16, rfl, ho, hb⟩; refine Hid.out ?_)
    have HZ16 := Lib.hid hb.size
    have HLo_yr1 := Lib.hid (own_ge ho (Nat.le_refl _))
    have HHi_yr1 := Lib.hid (fun q hq => (ho.lt q hq).2)
    have H15 := Lib.hid (And.intro (H14.out.1.below hb) (And.intro (H14.out.2.1.kept (grown_below hb none) (none_okx _ _ _)) (And.intro (H14.out.2.2.1.kept (grown_below hb none) (none_okx _ _ _)) (And.intro (H14.out.2.2.2.1.below hb) (And.intro (H14.out.2.2.2.2.1.below hb) (And.intro (below_then H14.out.2.2.2.2.2.1 hb) (And.intro (H14.out.2.2.2.2.2.2.1.below hb) (And.intro (H14.out.2.2.2.2.2.2.2.1.kept (grown_below hb none) (none_okx _ _ _)) (And.intro (H14.out.2.2.2.2.2.2.2.2.1.kept (grown_below hb none) (none_okx _ _ _)) (And.intro (H14.out.2.2.2.2.2.2.2.2.2.1.kept (grown_below hb none) (none_okx _ _ _)) (And.intro (H14.out.2.2.2.2.2.2.2.2.2.2.1.kept (grown_below hb none) (none_okx _ _ _)) (And.intro (H14.out.2.2.2.2.2.2.2.2.2.2.2.1.below hb) (And.intro ho (below_then H14.out.2.2.2.2.2.2.2.2.2.2.2.2 hb))))))))))))))
    clear ho hb
    refine Lib.hid ?_
    go_wp2_with (go_at_call 23; (with_reducible refine (eqInts_any _ _ _ _ _ _ L1 hsm1 (Row.of_own H15.out.2.2.2.2.2.2.2.1) (Row.of_own H15.out.2.2.2.2.2.2.2.2.2.2.2.2.1)).mono ?_); rintro e x17 ⟨rfl, hg⟩; refine Hid.out ?_)
    have HZ17 := Lib.hid hg.size
    have H16 := Lib.hid (And.intro (H15.out.1.below (below_grown hg)) (And.intro (H15.out.2.1.kept (grown_below (below_grown hg) none) (none_okx _ _ _)) (And.intro (H15.out.2.2.1.kept (grown_below (below_grown hg) none) (none_okx _ _ _)) (And.intro (H15.out.2.2.2.1.below (below_grown hg)) (And.intro (H15.out.2.2.2.2.1.below (below_grown hg)) (And.intro (below_then H15.out.2.2.2.2.2.1 (below_grown hg)) (And.intro (H15.out.2.2.2.2.2.2.1.below (below_grown hg)) (And.intro (H15.out.2.2.2.2.2.2.2.1.kept (grown_below (below_grown hg) none) (none_okx _ _ _)) (And.intro (H15.out.2.2.2.2.2.2.2.2.1.kept (grown_below (below_grown hg) none) (none_okx _ _ _)) (And.intro (H15.out.2.2.2.2.2.2.2.2.2.1.kept (grown_below (below_grown hg) none) (none_okx _ _ _)) (And.intro (H15.out.2.2.2.2.2.2.2.2.2.2.1.kept (grown_below (below_grown hg) none) (none_okx _ _ _)) (And.intro (H15.out.2.2.2.2.2.2.2.2.2.2.2.1.below (below_grown hg)) (below_then H15.out.2.2.2.2.2.2.2.2.2.2.2.2.2 (below_grown hg))))))))))))))
    clear hg
    refine Lib.hid ?_
    go_wp2_with (go_at_call 20; (with_reducible refine (toInts_new _ a2 len2 cap2 L2 hsm2 (HR2.out.below H16.out.2.2.2.2.2.2.2.2.2.2.2.2)).mono ?_); rintro e x18 ⟨gx18, rfl, ho, hb⟩; refine Hid.out ?_)
    have HZ18 := Lib.hid hb.size
    have HLo_yr2 := Lib.hid (own_ge ho (Nat.le_refl _))
    have HHi_yr2 := Lib.hid (fun q hq => (ho.lt q hq).2)
    have H17 := Lib.hid (And.intro (H16.out.1.below hb) (And.intro (H16.out.2.1.kept (grown_below hb none) (none_okx _ _ _)) (And.intro (H16.out.2.2.1.kept (grown_below hb none) (none_okx _ _ _)) (And.intro (H16.out.2.2.2.1.below hb) (And.intro (H16.out.2.2.2.2.1.below hb) (And.intro (below_then H16.out.2.2.2.2.2.1 hb) (And.intro (H16.out.2.2.2.2.2.2.1.below hb) (And.intro (H16.out.2.2.2.2.2.2.2.1.kept (grown_below hb none) (none_okx _ _ _)) (And.intro (H16.out.2.2.2.2.2.2.2.2.1.kept (grown_below hb none) (none_okx _ _ _)) (And.intro (H16.out.2.2.2.2.2.2.2.2.2.1.kept (grown_below hb none) (none_okx _ _ _)) (And.intro (H16.out.2.2.2.2.2.2.2.2.2.2.1.kept (grown_below hb none) (none_okx _ _ _)) (And.intro (H16.out.2.2.2.2.2.2.2.2.2.2.2.1.below hb) (And.intro ho (below_then H16.out.2.2.2.2.2.2.2.2.2.2.2.2 hb))))))))))))))
    clear ho hb
    refine Lib.hid ?_
    go_wp2_with (go_at_call 23; (with_reducible refine (eqInts_any _ _ _ _ _ _ L2 hsm2 (Row.of_own H17.out.2.2.2.2.2.2.2.2.1) (Row.of_own H17.out.2.2.2.2.2.2.2.2.2.2.2.2.1)).mono ?_); rintro e x19 ⟨rfl, hg⟩; refine Hid.out ?_)
    have HZ19 := Lib.hid hg.size
    have H18 := Lib.hid (And.intro (H17.out.1.below (below_grown hg)) (And.intro (H17.out.2.1.kept (grown_below (below_grown hg) none) (none_okx _ _ _)) (And.intro (H17.out.2.2.1.kept (grown_below (below_grown hg) none) (none_okx _ _ _)) (And.intro (H17.out.2.2.2.1.below (below_grown hg)) (And.intro (H17.out.2.2.2.2.1.below (below_grown hg)) (And.intro (below_then H17.out.2.2.2.2.2.1 (below_grown hg)) (And.intro (H17.out.2.2.2.2.2.2.1.below (below_grown hg)) (And.intro (H17.out.2.2.2.2.2.2.2.1.kept (grown_below (below_grown hg) none) (none_okx _ _ _)) (And.intro (H17.out.2.2.2.2.2.2.2.2.1.kept (grown_below (below_grown hg) none) (none_okx _ _ _)) (And.intro (H17.out.2.2.2.2.2.2.2.2.2.1.kept (grown_below (below_grown hg) none) (none_okx _ _ _)) (And.intro (H17.out.2.2.2.2.2.2.2.2.2.2.1.kept (grown_below (below_grown hg) none) (none_okx _ _ _)) (And.intro (H17.out.2.2.2.2.2.2.2.2.2.2.2.1.below (below_grown hg)) (below_then H17.out.2.2.2.2.2.2.2.2.2.2.2.2.2 (below_grown hg))))))))))))))
    clear hg
    refine Lib.hid ?_
    have HMW := Lib.hid (markprogram_wide x6.heap.size x7.heap.size x19 gp n n _ (HMXH.out.below (show Below x7.heap.size x7 x19 from H18.out.2.2.2.2.2.1)) (len_of HZZ.out) (Nat.le_trans (Nat.le_trans (Nat.le_trans (Nat.le_trans (Nat.le_trans (Nat.le_trans (Nat.le_trans (Nat.le_trans (Nat.le_trans (Nat.le_trans (Nat.le_trans (Nat.le_trans HZ7.out HZ8.out) HZ9.out) HZ10.out) HZ11.out) HZ12.out) HZ13.out) HZ14.out) HZ15.out) HZ16.out) HZ17.out) HZ18.out) HZ19.out) hgpl 1 (by omega) (by omega) (by omega))
    go_wp2_with (first
        | (refine wpList_load_row rfl 26 _ rfl x7.heap.size rfl _ _ _ _ H18.out.2.2.2.2.2.2.1 Tryz.underlying26 rfl (by kernel_rfl) ?_)
        | (go_at_call 24; (with_reducible refine HMW.out.mono ?_); rintro e x20 ⟨K0, rfl, hk0, hk1, hbf, hsz, _⟩; refine Hid.out ?_))
    have HZ20 := Lib.hid hsz
    obtain ⟨k0, rfl⟩ : ∃ k : Nat, K0 = k := ⟨K0.toNat, by omega⟩
    have hk2 : (k0 : Int) ≤ 10000000000000 := by omega
    have H19 := Lib.hid (And.intro (box_far H18.out.1 hbf (.inl (Nat.lt_of_lt_of_le HHi_boxp.out (Nat.le_trans (Nat.le_trans (Nat.le_trans (Nat.le_trans (Nat.le_trans HZ1.out HZ2.out) HZ3.out) HZ4.out) HZ5.out) HZ6.out)))) (And.intro (own_far H18.out.2.1 hbf (fun q hq => .inl (Nat.lt_of_lt_of_le (HHi_res0v.out q hq) HZ6.out))) (And.intro (own_far H18.out.2.2.1 hbf (fun q hq => .inl (Nat.lt_of_lt_of_le (HHi_res0s.out q hq) HZ6.out))) (And.intro (box_far H18.out.2.2.2.1 hbf (.inl (Nat.lt_of_lt_of_le HHi_eres0.out (Nat.le_refl _)))) (And.intro (own_far H18.out.2.2.2.2.2.2.2.1 hbf (fun q hq => .inr (Nat.le_trans HZ8.out (HLo_xr1.out q hq)))) (And.intro (own_far H18.out.2.2.2.2.2.2.2.2.1 hbf (fun q hq => .inr (Nat.le_trans (Nat.le_trans HZ8.out HZ9.out) (HLo_xr2.out q hq)))) (And.intro (own_far H18.out.2.2.2.2.2.2.2.2.2.1 hbf (fun q hq => .inr (Nat.le_trans (Nat.le_trans (Nat.le_trans HZ8.out HZ9.out) HZ10.out) (HLo_res1v.out q hq)))) (And.intro (own_far H18.out.2.2.2.2.2.2.2.2.2.2.1 hbf (fun q hq => .inr (Nat.le_trans (Nat.le_trans (Nat.le_trans HZ8.out HZ9.out) HZ10.out) (HLo_res1s.out q hq)))) (And.intro (box_far H18.out.2.2.2.2.2.2.2.2.2.2.2.1 hbf (.inr (Nat.le_trans (Nat.le_trans (Nat.le_trans HZ8.out HZ9.out) HZ10.out) HZ11.out))) (H18.out.2.2.2.2.2.2.2.2.2.2.2.2.trans (hbf.1.mono (Nat.le_trans (Nat.le_trans (Nat.le_trans (Nat.le_trans (Nat.le_trans HZ1.out HZ2.out) HZ3.out) HZ4.out) HZ5.out) HZ6.out))))))))))))
    clear hbf hsz HMW hk0 hk1
    refine Lib.hid ?_
    go_wp2_with (go_at_call 25; refine (markInts_wide _ _ _ _ _ k0 _ hsm1 (by omega) H19.out.2.2.2.2.1).mono ?_; rintro e x21 ⟨rfl, hg, Lm, ho, hMk⟩; refine Hid.out ?_)
    have HZ21 := Lib.hid hg.size
    have H20 := Lib.hid (And.intro (H19.out.1.grown hg (box_apart (Nat.lt_of_lt_of_le HHi_boxp.out (Nat.le_trans (Nat.le_trans (Nat.le_trans (Nat.le_trans (Nat.le_trans (Nat.le_trans (Nat.le_trans HZ1.out HZ2.out) HZ3.out) HZ4.out) HZ5.out) HZ6.out) HZ7.out) HZ8.out)) HLo_xr1.out)) (And.intro (H19.out.2.1.kept hg (low_high (fun q hq => Nat.lt_of_lt_of_le (HHi_res0v.out q hq) (Nat.le_trans (Nat.le_trans HZ6.out HZ7.out) HZ8.out)) HLo_xr1.out)) (And.intro (H19.out.2.2.1.kept hg (low_high (fun q hq => Nat.lt_of_lt_of_le (HHi_res0s.out q hq) (Nat.le_trans (Nat.le_trans HZ6.out HZ7.out) HZ8.out)) HLo_xr1.out)) (And.intro (H19.out.2.2.2.1.grown hg (box_apart (Nat.lt_of_lt_of_le HHi_eres0.out (Nat.le_trans HZ7.out HZ8.out)) HLo_xr1.out)) (And.intro (H19.out.2.2.2.2.2.1.kept hg (high_low (fun q hq => Nat.le_trans (Nat.le_refl _) (HLo_xr2.out q hq)) HHi_xr1.out)) (And.intro (H19.out.2.2.2.2.2.2.1.kept hg (high_low (fun q hq => Nat.le_trans HZ10.out (HLo_res1v.out q hq)) HHi_xr1.out)) (And.intro (H19.out.2.2.2.2.2.2.2.1.kept hg (high_low (fun q hq => Nat.le_trans HZ10.out (HLo_res1s.out q hq)) HHi_xr1.out)) (And.intro (H19.out.2.2.2.2.2.2.2.2.1.grown hg (box_apart2 HHi_xr1.out (Nat.le_trans HZ10.out HZ11.out))) (H19.out.2.2.2.2.2.2.2.2.2.grown hg H19.out.2.2.2.2.2.2.2.2.2.size (fun q hq => Nat.le_trans (Nat.le_trans (Nat.le_trans (Nat.le_trans (Nat.le_trans (Nat.le_trans (Nat.le_trans (Nat.le_trans HZ1.out HZ2.out) HZ3.out) HZ4.out) HZ5.out) HZ6.out) HZ7.out) HZ8.out) (HLo_xr1.out q hq)))))))))))
    clear ho hg hMk
    refine Lib.hid ?_
    go_wp2_with (go_at_call 25; refine (markInts_wide _ _ _ _ _ (k0 + len1) _ hsm2 (by omega) H20.out.2.2.2.2.1).mono ?_; rintro e x22 ⟨rfl, hg, Lm, ho, hMk⟩; refine Hid.out ?_)
    have HZ22 := Lib.hid hg.size
    have H21 := Lib.hid (And.intro (H20.out.1.grown hg (box_apart (Nat.lt_of_lt_of_le HHi_boxp.out (Nat.le_trans (Nat.le_trans (Nat.le_trans (Nat.le_trans (Nat.le_trans (Nat.le_trans (Nat.le_trans (Nat.le_trans HZ1.out HZ2.out) HZ3.out) HZ4.out) HZ5.out) HZ6.out) HZ7.out) HZ8.out) HZ9.out)) HLo_xr2.out)) (And.intro (H20.out.2.1.kept hg (low_high (fun q hq => Nat.lt_of_lt_of_le (HHi_res0v.out q hq) (Nat.le_trans (Nat.le_trans (Nat.le_trans HZ6.out HZ7.out) HZ8.out) HZ9.out)) HLo_xr2.out)) (And.intro (H20.out.2.2.1.kept hg (low_high (fun q hq => Nat.lt_of_lt_of_le (HHi_res0s.out q hq) (Nat.le_trans (Nat.le_trans (Nat.le_trans HZ6.out HZ7.out) HZ8.out) HZ9.out)) HLo_xr2.out)) (And.intro (H20.out.2.2.2.1.grown hg (box_apart (Nat.lt_of_lt_of_le HHi_eres0.out (Nat.le_trans (Nat.le_trans HZ7.out HZ8.out) HZ9.out)) HLo_xr2.out)) (And.intro (H20.out.2.2.2.2.2.1.kept hg (high_low (fun q hq => Nat.le_trans (Nat.le_refl _) (HLo_res1v.out q hq)) HHi_xr2.out)) (And.intro (H20.out.2.2.2.2.2.2.1.kept hg (high_low (fun q hq => Nat.le_trans (Nat.le_refl _) (HLo_res1s.out q hq)) HHi_xr2.out)) (And.intro (H20.out.2.2.2.2.2.2.2.1.grown hg (box_apart2 HHi_xr2.out HZ11.out)) (H20.out.2.2.2.2.2.2.2.2.grown hg H20.out.2.2.2.2.2.2.2.2.size (fun q hq => Nat.le_trans (Nat.le_trans (Nat.le_trans (Nat.le_trans (Nat.le_trans (Nat.le_trans (Nat.le_trans (Nat.le_trans (Nat.le_trans HZ1.out HZ2.out) HZ3.out) HZ4.out) HZ5.out) HZ6.out) HZ7.out) HZ8.out) HZ9.out) (HLo_xr2.out q hq))))))))))
    clear ho hg hMk
    refine Lib.hid ?_
    have hkk : ¬ ((((k0 + len1) + len2) : Nat) : Int) < 0 := by omega
    have q0 : x22.cell? ⟨x11.heap.size, 0, none⟩ = some (.slice avx11 mvx5 cvx11) := H21.out.2.2.2.2.2.2.1.cell 0
    have q1 : x22.cell? ⟨x11.heap.size, 1, none⟩ = some (.slice asx11 msx5 csx11) := H21.out.2.2.2.2.2.2.1.cell 1
    have p0 : x22.cell? ⟨x5.heap.size, 0, none⟩ = some (.slice avx5 mvx5 cvx5) := H21.out.2.2.2.1.cell 0
    have p1 : x22.cell? ⟨x5.heap.size, 1, none⟩ = some (.slice asx5 msx5 csx5) := H21.out.2.2.2.1.cell 1
    have HTQ := Lib.hid (eqtrace_any x22 M U avx11 mvx5 cvx11 asx11 msx5 csx11 avx5 cvx5 asx5 csx5 ⟨mrow_own H21.out.2.2.2.2.1, (Row.of_own H21.out.2.2.2.2.2.1), by omega, by omega⟩ ⟨mrow_own H21.out.2.1, (Row.of_own H21.out.2.2.1), by omega, by omega⟩)
    go_wp2_with (go_at_call 42; (with_reducible refine HTQ.out.mono ?_); rintro e x23 ⟨rfl, hb⟩; refine Hid.out ?_)
    have HZ23 := Lib.hid hb.size
    have H22 := Lib.hid (And.intro (H21.out.1.below hb) (And.intro (H21.out.2.1.kept (grown_below hb none) (none_okx _ _ _)) (And.intro (H21.out.2.2.1.kept (grown_below hb none) (none_okx _ _ _)) (And.intro (H21.out.2.2.2.1.below hb) (And.intro (H21.out.2.2.2.2.1.kept (grown_below hb none) (none_okx _ _ _)) (And.intro (H21.out.2.2.2.2.2.1.kept (grown_below hb none) (none_okx _ _ _)) (And.intro (H21.out.2.2.2.2.2.2.1.below hb) (below_then H21.out.2.2.2.2.2.2.2 hb))))))))
    clear hb q0 q1 p0 p1
    refine Lib.hid ?_
    have q0 : x23.cell? ⟨x11.heap.size, 0, none⟩ = some (.slice avx11 mvx5 cvx11) := H22.out.2.2.2.2.2.2.1.cell 0
    have q1 : x23.cell? ⟨x11.heap.size, 1, none⟩ = some (.slice asx11 msx5 csx11) := H22.out.2.2.2.2.2.2.1.cell 1
    have HME := Lib.hid (marktr_any _ x10.heap.size x11.heap.size x23 avx11 mvx5 cvx11 asx11 msx5 csx11 M U (by omega) (by omega) (Nat.le_trans (Nat.le_trans (Nat.le_trans (Nat.le_trans (Nat.le_trans (Nat.le_trans (Nat.le_trans (Nat.le_trans (Nat.le_trans (Nat.le_trans (Nat.le_trans (Nat.le_trans HZ11.out HZ12.out) HZ13.out) HZ14.out) HZ15.out) HZ16.out) HZ17.out) HZ18.out) HZ19.out) HZ20.out) HZ21.out) HZ22.out) HZ23.out) (Nat.le_trans (Nat.le_trans (Nat.le_trans (Nat.le_trans (Nat.le_trans (Nat.le_trans (Nat.le_trans (Nat.le_trans (Nat.le_trans (Nat.le_trans (Nat.le_trans HZ12.out HZ13.out) HZ14.out) HZ15.out) HZ16.out) HZ17.out) HZ18.out) HZ19.out) HZ20.out) HZ21.out) HZ22.out) HZ23.out) (fun g hg => ⟨HLo_res1v.out g hg, HHi_res1v.out g hg⟩) (fun g hg => ⟨HLo_res1s.out g hg, HHi_res1s.out g hg⟩) ⟨H22.out.2.2.2.2.1, H22.out.2.2.2.2.2.1, HAP_res1.out⟩)
    go_wp2_with (go_at_call 43; refine HME.out.mono ?_; rintro e x24 ⟨rfl, hbf, hsz, M1, M2, hmm⟩; refine Hid.out ?_)
    have HZ24 := Lib.hid hsz
    have HM := Lib.hid hmm.out.2.2
    have H23 := Lib.hid (And.intro (box_far H22.out.1 hbf (.inl (Nat.lt_of_lt_of_le HHi_boxp.out (Nat.le_trans (Nat.le_trans (Nat.le_trans (Nat.le_trans (Nat.le_trans (Nat.le_trans (Nat.le_trans (Nat.le_trans (Nat.le_trans HZ1.out HZ2.out) HZ3.out) HZ4.out) HZ5.out) HZ6.out) HZ7.out) HZ8.out) HZ9.out) HZ10.out)))) (And.intro (own_far H22.out.2.1 hbf (fun q hq => .inl (Nat.lt_of_lt_of_le (HHi_res0v.out q hq) (Nat.le_trans (Nat.le_trans (Nat.le_trans (Nat.le_trans HZ6.out HZ7.out) HZ8.out) HZ9.out) HZ10.out)))) (And.intro (own_far H22.out.2.2.1 hbf (fun q hq => .inl (Nat.lt_of_lt_of_le (HHi_res0s.out q hq) (Nat.le_trans (Nat.le_trans (Nat.le_trans (Nat.le_trans HZ6.out HZ7.out) HZ8.out) HZ9.out) HZ10.out)))) (And.intro (box_far H22.out.2.2.2.1 hbf (.inl (Nat.lt_of_lt_of_le HHi_eres0.out (Nat.le_trans (Nat.le_trans (Nat.le_trans HZ7.out HZ8.out) HZ9.out) HZ10.out)))) (And.intro (box_far H22.out.2.2.2.2.2.2.1 hbf (.inr (Nat.le_refl _))) (And.intro hmm.out.1 (And.intro hmm.out.2.1 (H22.out.2.2.2.2.2.2.2.trans (hbf.1.mono (Nat.le_trans (Nat.le_trans (Nat.le_trans (Nat.le_trans (Nat.le_trans (Nat.le_trans (Nat.le_trans (Nat.le_trans (Nat.le_trans HZ1.out HZ2.out) HZ3.out) HZ4.out) HZ5.out) HZ6.out) HZ7.out) HZ8.out) HZ9.out) HZ10.out))))))))))
    clear hbf hsz HME q0 q1 hmm
    refine Lib.hid ?_
    have hnk : ¬ ((1 + 3 * mvx5 + msx5 : Nat) : Int) < 0 := by omega
    have q0 : x24.cell? ⟨x11.heap.size, 0, none⟩ = some (.slice avx11 mvx5 cvx11) := H23.out.2.2.2.2.1.cell 0
    have q1 : x24.cell? ⟨x11.heap.size, 1, none⟩ = some (.slice asx11 msx5 csx11) := H23.out.2.2.2.2.1.cell 1
    go_wp2_with (go_at_call 44; refine (heldtr_any _ _ avx11 mvx5 cvx11 asx11 msx5 csx11 M1 M2 (by omega) (by omega) H23.out.2.2.2.2.2.1 (Row.of_own H23.out.2.2.2.2.2.2.1) HM.out.1 HM.out.2).mono ?_; rintro e x25 ⟨rfl, hb⟩; refine Hid.out ?_)
    have HZ25 := Lib.hid hb.size
    have H24 := Lib.hid (And.intro (H23.out.1.below hb) (And.intro (H23.out.2.1.kept (grown_below hb none) (none_okx _ _ _)) (And.intro (H23.out.2.2.1.kept (grown_below hb none) (none_okx _ _ _)) (And.intro (H23.out.2.2.2.1.below hb) (And.intro (H23.out.2.2.2.2.1.below hb) (And.intro (H23.out.2.2.2.2.2.1.kept (grown_below hb none) (none_okx _ _ _)) (And.intro (H23.out.2.2.2.2.2.2.1.kept (grown_below hb none) (none_okx _ _ _)) (below_then H23.out.2.2.2.2.2.2.2 hb))))))))
    clear hb q0 q1
    refine Lib.hid ?_
    go_wp2_with (first
      | (refine wpList_load_row rfl 40 _ rfl w.heap.size rfl _ _ _ _ H24.out.1 Tryz.underlying40 rfl (by kernel_rfl) ?_)
      | (go_at_call 19; (with_reducible refine (toprogram_box _ ad n cap P HZZ.out (HP.out.2.1.below H24.out.2.2.2.2.2.2.2)).mono ?_); rintro e x26 ⟨bx26, rfl, hT, hb⟩; refine Hid.out ?_))
    have HZ26 := Lib.hid hb.size
    have H25 := Lib.hid (And.intro (H24.out.1.below hb) (And.intro (H24.out.2.1.kept (grown_below hb none) (none_okx _ _ _)) (And.intro (H24.out.2.2.1.kept (grown_below hb none) (none_okx _ _ _)) (And.intro (H24.out.2.2.2.1.below hb) (And.intro (H24.out.2.2.2.2.1.below hb) (And.intro (H24.out.2.2.2.2.2.1.kept (grown_below hb none) (none_okx _ _ _)) (And.intro (H24.out.2.2.2.2.2.2.1.kept (grown_below hb none) (none_okx _ _ _)) (And.intro hT.out (below_then H24.out.2.2.2.2.2.2.2 hb)))))))))
    clear hT hb
    refine Lib.hid ?_
    go_wp2_with (go_at_call 20; (with_reducible refine (toInts_new _ a1 len1 cap1 L1 hsm1 (HR1.out.below H25.out.2.2.2.2.2.2.2.2)).mono ?_); rintro e x27 ⟨gx27, rfl, ho, hb⟩; refine Hid.out ?_)
    have HZ27 := Lib.hid hb.size
    have HLo_zr1 := Lib.hid (own_ge ho (Nat.le_refl _))
    have HHi_zr1 := Lib.hid (fun q hq => (ho.lt q hq).2)
    have H26 := Lib.hid (And.intro (H25.out.1.below hb) (And.intro (H25.out.2.1.kept (grown_below hb none) (none_okx _ _ _)) (And.intro (H25.out.2.2.1.kept (grown_below hb none) (none_okx _ _ _)) (And.intro (H25.out.2.2.2.1.below hb) (And.intro (H25.out.2.2.2.2.1.below hb) (And.intro (H25.out.2.2.2.2.2.1.kept (grown_below hb none) (none_okx _ _ _)) (And.intro (H25.out.2.2.2.2.2.2.1.kept (grown_below hb none) (none_okx _ _ _)) (And.intro (H25.out.2.2.2.2.2.2.2.1.below hb) (And.intro ho (below_then H25.out.2.2.2.2.2.2.2.2 hb))))))))))
    clear ho hb
    refine Lib.hid ?_
    go_wp2_with (go_at_call 20; (with_reducible refine (toInts_new _ a2 len2 cap2 L2 hsm2 (HR2.out.below H26.out.2.2.2.2.2.2.2.2.2)).mono ?_); rintro e x28 ⟨gx28, rfl, ho, hb⟩; refine Hid.out ?_)
    have HZ28 := Lib.hid hb.size
    have HLo_zr2 := Lib.hid (own_ge ho (Nat.le_refl _))
    have HHi_zr2 := Lib.hid (fun q hq => (ho.lt q hq).2)
    have H27 := Lib.hid (And.intro (H26.out.1.below hb) (And.intro (H26.out.2.1.kept (grown_below hb none) (none_okx _ _ _)) (And.intro (H26.out.2.2.1.kept (grown_below hb none) (none_okx _ _ _)) (And.intro (H26.out.2.2.2.1.below hb) (And.intro (H26.out.2.2.2.2.1.below hb) (And.intro (H26.out.2.2.2.2.2.1.kept (grown_below hb none) (none_okx _ _ _)) (And.intro (H26.out.2.2.2.2.2.2.1.kept (grown_below hb none) (none_okx _ _ _)) (And.intro (H26.out.2.2.2.2.2.2.2.1.below hb) (And.intro (H26.out.2.2.2.2.2.2.2.2.1.kept (grown_below hb none) (none_okx _ _ _)) (And.intro ho (below_then H26.out.2.2.2.2.2.2.2.2.2 hb)))))))))))
    clear ho hb
    refine Lib.hid ?_
    go_wp2_with (first
      | (go_at_call 29; (with_reducible refine (impl_traceof bx26 n n P HZZ.out (Nat.le_refl _) _ H27.out.2.2.2.2.2.2.2.1.row (some ⟨gx27, 0, none⟩) len1 len1 L1 hsm1 (Nat.le_refl _) (Row.of_own H27.out.2.2.2.2.2.2.2.2.1) (some ⟨gx28, 0, none⟩) len2 len2 L2 hsm2 (Nat.le_refl _) (Row.of_own H27.out.2.2.2.2.2.2.2.2.2.1) a3 r M U HE.out HW8.out (HTB.out.below H27.out.2.2.2.2.2.2.2.2.2.2)).mono ?_); rintro e x29 ⟨avx29, mvx29, cvx29, asx29, msx29, csx29, rfl, hm, hb⟩; refine Hid.out ?_))
    have HZ29 := Lib.hid hb.size
    obtain ⟨ho1, ho2, hap⟩ := hm
    have HLo_res2v := Lib.hid (own_ge ho1 (Nat.le_refl _))
    have HHi_res2v := Lib.hid (fun q hq => (ho1.lt q hq).2)
    have HLo_res2s := Lib.hid (own_ge ho2 (Nat.le_refl _))
    have HHi_res2s := Lib.hid (fun q hq => (ho2.lt q hq).2)
    have HAP_res2 := Lib.hid hap
    clear hap
    have hlv' : M.length = mvx29 := mlen_own ho1
    have hls' : U.length = msx29 := own_len ho2
    obtain rfl : mvx5 = mvx29 := by omega
    obtain rfl : msx5 = msx29 := by omega
    clear hlv' hls'
    have H28 := Lib.hid (And.intro (H27.out.1.below hb) (And.intro (H27.out.2.1.kept (grown_below hb none) (none_okx _ _ _)) (And.intro (H27.out.2.2.1.kept (grown_below hb none) (none_okx _ _ _)) (And.intro (H27.out.2.2.2.1.below hb) (And.intro (H27.out.2.2.2.2.1.below hb) (And.intro (H27.out.2.2.2.2.2.1.kept (grown_below hb none) (none_okx _ _ _)) (And.intro (H27.out.2.2.2.2.2.2.1.kept (grown_below hb none) (none_okx _ _ _)) (And.intro ho1 (And.intro ho2 (below_then H27.out.2.2.2.2.2.2.2.2.2.2 hb))))))))))
    clear ho1 ho2 hb
    refine Lib.hid ?_
    have HA := Lib.hid (And.intro (Box.new x29 zero2T 54) (below_new x29 (.cells zero2T 54)))
    go_wp2_with ((refine wpList_store_box rfl 54 _ _ rfl x29.heap.size _ _ HA.out.1 #[.slice avx29 mvx5 cvx29, .slice asx29 msx5 csx29] rfl rfl rfl (by kernel_rfl) (by simp [Value.oneCell']) ?_); intro x30 hx hg; refine Hid.out ?_)
    have hb : Below x29.heap.size x29 x30 := HA.out.2.grown hg HA.out.2.size (fun j hj => by cases hj; exact Nat.le_refl _)
    have HZ30 := Lib.hid hb.size
    have HHi_eres2 := Lib.hid hx.lt
    have H29 := Lib.hid (And.intro (H28.out.1.below hb) (And.intro (H28.out.2.1.kept (grown_below hb none) (none_okx _ _ _)) (And.intro (H28.out.2.2.1.kept (grown_below hb none) (none_okx _ _ _)) (And.intro (H28.out.2.2.2.1.below hb) (And.intro (H28.out.2.2.2.2.1.below hb) (And.intro (H28.out.2.2.2.2.2.1.kept (grown_below hb none) (none_okx _ _ _)) (And.intro (H28.out.2.2.2.2.2.2.1.kept (grown_below hb none) (none_okx _ _ _)) (And.intro (H28.out.2.2.2.2.2.2.2.1.kept (grown_below hb none) (none_okx _ _ _)) (And.intro (H28.out.2.2.2.2.2.2.2.2.1.kept (grown_below hb none) (none_okx _ _ _)) (And.intro hx (below_then H28.out.2.2.2.2.2.2.2.2.2 hb)))))))))))
    clear hx hg hb HA
    refine Lib.hid ?_
    have q0 : x30.cell? ⟨x29.heap.size, 0, none⟩ = some (.slice avx29 mvx5 cvx29) := H29.out.2.2.2.2.2.2.2.2.2.1.cell 0
    have q1 : x30.cell? ⟨x29.heap.size, 1, none⟩ = some (.slice asx29 msx5 csx29) := H29.out.2.2.2.2.2.2.2.2.2.1.cell 1
    have p0 : x30.cell? ⟨x5.heap.size, 0, none⟩ = some (.slice avx5 mvx5 cvx5) := H29.out.2.2.2.1.cell 0
    have p1 : x30.cell? ⟨x5.heap.size, 1, none⟩ = some (.slice asx5 msx5 csx5) := H29.out.2.2.2.1.cell 1
    have HTQ := Lib.hid (eqtrace_any x30 M U avx29 mvx5 cvx29 asx29 msx5 csx29 avx5 cvx5 asx5 csx5 ⟨mrow_own H29.out.2.2.2.2.2.2.2.1, (Row.of_own H29.out.2.2.2.2.2.2.2.2.1), by omega, by omega⟩ ⟨mrow_own H29.out.2.1, (Row.of_own H29.out.2.2.1), by omega, by omega⟩)
    go_wp2_with (go_at_call 42; (with_reducible refine HTQ.out.mono ?_); rintro e x31 ⟨rfl, hb⟩; refine Hid.out ?_)
    have HZ31 := Lib.hid hb.size
    have H30 := Lib.hid (And.intro (H29.out.1.below hb) (And.intro (H29.out.2.1.kept (grown_below hb none) (none_okx _ _ _)) (And.intro (H29.out.2.2.1.kept (grown_below hb none) (none_okx _ _ _)) (And.intro (H29.out.2.2.2.1.below hb) (And.intro (H29.out.2.2.2.2.1.below hb) (And.intro (H29.out.2.2.2.2.2.1.kept (grown_below hb none) (none_okx _ _ _)) (And.intro (H29.out.2.2.2.2.2.2.1.kept (grown_below hb none) (none_okx _ _ _)) (And.intro (H29.out.2.2.2.2.2.2.2.1.kept (grown_below hb none) (none_okx _ _ _)) (And.intro (H29.out.2.2.2.2.2.2.2.2.1.kept (grown_below hb none) (none_okx _ _ _)) (And.intro (H29.out.2.2.2.2.2.2.2.2.2.1.below hb) (below_then H29.out.2.2.2.2.2.2.2.2.2.2 hb)))))))))))
    clear hb q0 q1 p0 p1
    refine Lib.hid ?_
    have q0 : x31.cell? ⟨x11.heap.size, 0, none⟩ = some (.slice avx11 mvx5 cvx11) := H30.out.2.2.2.2.1.cell 0
    have q1 : x31.cell? ⟨x11.heap.size, 1, none⟩ = some (.slice asx11 msx5 csx11) := H30.out.2.2.2.2.1.cell 1
    go_wp2_with (go_at_call 44; refine (heldtr_any _ _ avx11 mvx5 cvx11 asx11 msx5 csx11 M1 M2 (by omega) (by omega) H30.out.2.2.2.2.2.1 (Row.of_own H30.out.2.2.2.2.2.2.1) HM.out.1 HM.out.2).mono ?_; rintro e x32 ⟨rfl, hb⟩; refine Hid.out ?_)
    have HZ32 := Lib.hid hb.size
    have H31 := Lib.hid (And.intro (H30.out.1.below hb) (And.intro (H30.out.2.1.kept (grown_below hb none) (none_okx _ _ _)) (And.intro (H30.out.2.2.1.kept (grown_below hb none) (none_okx _ _ _)) (And.intro (H30.out.2.2.2.1.below hb) (And.intro (H30.out.2.2.2.2.1.below hb) (And.intro (H30.out.2.2.2.2.2.1.kept (grown_below hb none) (none_okx _ _ _)) (And.intro (H30.out.2.2.2.2.2.2.1.kept (grown_below hb none) (none_okx _ _ _)) (And.intro (H30.out.2.2.2.2.2.2.2.1.kept (grown_below hb none) (none_okx _ _ _)) (And.intro (H30.out.2.2.2.2.2.2.2.2.1.kept (grown_below hb none) (none_okx _ _ _)) (And.intro (H30.out.2.2.2.2.2.2.2.2.2.1.below hb) (below_then H30.out.2.2.2.2.2.2.2.2.2.2 hb)))))))))))
    clear hb q0 q1
    refine Lib.hid ?_
    go_wp2
    go_ret
    exact ⟨rfl, HP.out.1.trans (H31.out.2.2.2.2.2.2.2.2.2.2.mono (Nat.le_of_lt hwl))⟩

/-! ### THE ROW's STEP -/
/-- The door's own heap meets the condition: three closed facts. -/
theorem door_met (os : Os) (args : Array Value) : laidMetH Tryz.prog Rows.fnExactTraceOfRow.laid ((World.doorLaid Tryz.prog 400 os).forCall (fun _ _ => 0) ⟨#[], args, []⟩).memory :=
  laidMetH_of_parts3 (fuel := 8) (laidMet_of_run' 8 (by kernel_rfl) (by kernel_rfl)) (by kernel_rfl) (by kernel_rfl)

set_option maxRecDepth 100000 in
theorem lifted (os : Os) (started : os.Started) (H : Type) (enc : TypeId × Value → H) :
    ReturnsInHanded {} Tryz.checked os 8 .any (fun w args => (Rows.fnExactTraceOfSpec.pre enc Tryz.prog Tryz.f8 [] false w args ∧ laidMetH Tryz.prog Rows.fnExactTraceOfRow.laid w) ∧ sizedMet enc Tryz.prog Tryz.f8 (OpenSpec.ofChange Rows.fnExactTraceOfSpec) false w args) (Rows.fnExactTraceOfSpec.post enc Tryz.prog Tryz.f8 false true false false) := by
  refine returnsInHanded_of_change_and (C := Tryz.checked) (X := fun w _ => laidMetH Tryz.prog Rows.fnExactTraceOfRow.laid w) (fun _ _ _ hh h => h.of_heap hh) own started (by kernel_rfl) Tryz.func8
    (ChangeSpec.witness_shaped (enc := enc) (C := Tryz.checked) (os := os) (X := fun w _ => laidMetH Tryz.prog Rows.fnExactTraceOfRow.laid w) false (World.doorLaid Tryz.prog 400 os) #[.agg #[.slice none 0 0], .slice none 0 0, .slice none 0 0, .int .i64 0] 8 rfl (World.shaped_of_RefB (by kernel_rfl) (by kernel_rfl)) (by kernel_rfl) (by kernel_rfl) (by kernel_rfl) (door_met os _)) ?_
  intro W base args ds gs before hval0 hW hcnd _ hL _
  have hLm : laidMet Tryz.prog Rows.fnExactTraceOfRow.laid W := by rw [MakeChecks.laidMetH_plain _ _ _ (by kernel_rfl)] at hL; exact hL
  have hval : ∀ (j : Nat) t v, Tryz.f8.params[j]? = some t → args[j]? = some v → Value.okWide Tryz.prog W .any base t v := hval0
  have hW' := hW
  obtain ⟨p, q, hA0, hV, rfl, hfz, hnd⟩ := hW
  have hA : DataW.TrodAll enc Tryz.prog W 0 (fun _ => true) true Tryz.f8.params.toList args.toList ds p := hA0
  rw [Tryz.params8] at hA hval
  obtain ⟨v0, vs0, d0, ds0, p0, q0, hargs, rfl, rfl, h0, r0⟩ := trodAll_cons hA
  obtain ⟨v1, vs1, d1, ds1, p1, q1, rfl, rfl, rfl, h1, r1⟩ := trodAll_cons r0
  obtain ⟨v2, vs2, d2, ds2, p2, q2, rfl, rfl, rfl, h2, r2⟩ := trodAll_cons r1
  obtain ⟨v3, vs3, d3, ds3, p3, q3, rfl, rfl, rfl, h3, r3⟩ := trodAll_cons r2
  obtain ⟨rfl, rfl, rfl⟩ := trodAll_nil r3
  obtain rfl : args = #[v0, v1, v2, v3] := by cases args; simp_all
  obtain ⟨g1, rfl⟩ : ∃ g1, gs = [g1] := by
    obtain ⟨_, _, _, _, d1, _, e1, _⟩ := trodVars_one hV
    exact ⟨d1, e1⟩
  have k0 := h0
  have lt0 : ∀ x ∈ p0, x.block < W.heap.size := by obtain ⟨m, hm⟩ := k0; exact DataW.trod_lt m _ _ _ hm
  have w0 : IsPrgV W v0 := open_Program (hval 0 40 v0 rfl rfl) h0
  obtain ⟨a1, len1, cap1, rfl⟩ := okWide_slice Tryz.underlying27 (hval 1 27 v1 rfl rfl)
  have k1 := h1
  have lt1 : ∀ x ∈ p1, x.block < W.heap.size := by obtain ⟨m, hm⟩ := k1; exact DataW.trod_lt m _ _ _ hm
  obtain ⟨z1, w1⟩ : ∃ zs, IsRow .i64 W a1 len1 cap1 zs := by
    obtain ⟨fuel, hf⟩ := h1
    rcases open_ints Tryz.underlying27 Tryz.underlying3 (by kernel_rfl) hf with ⟨hcs, _⟩ | ⟨x, l, c, zs, hcs, _, hl, hm, hz, _, hcell, hwz⟩
    · simp [Value.cells] at hcs
      obtain ⟨rfl, rfl, rfl⟩ := hcs
      exact ⟨[], .inl ⟨rfl, rfl, rfl, rfl⟩⟩
    · simp [Value.cells] at hcs
      obtain ⟨rfl, rfl, rfl⟩ := hcs
      exact ⟨zs, .inr ⟨_, rfl, hl, hm, by simpa using hz, hcell, hwz⟩⟩
  obtain ⟨a2, len2, cap2, rfl⟩ := okWide_slice Tryz.underlying27 (hval 2 27 v2 rfl rfl)
  have k2 := h2
  have lt2 : ∀ x ∈ p2, x.block < W.heap.size := by obtain ⟨m, hm⟩ := k2; exact DataW.trod_lt m _ _ _ hm
  obtain ⟨z2, w2⟩ : ∃ zs, IsRow .i64 W a2 len2 cap2 zs := by
    obtain ⟨fuel, hf⟩ := h2
    rcases open_ints Tryz.underlying27 Tryz.underlying3 (by kernel_rfl) hf with ⟨hcs, _⟩ | ⟨x, l, c, zs, hcs, _, hl, hm, hz, _, hcell, hwz⟩
    · simp [Value.cells] at hcs
      obtain ⟨rfl, rfl, rfl⟩ := hcs
      exact ⟨[], .inl ⟨rfl, rfl, rfl, rfl⟩⟩
    · simp [Value.cells] at hcs
      obtain ⟨rfl, rfl, rfl⟩ := hcs
      exact ⟨zs, .inr ⟨_, rfl, hl, hm, by simpa using hz, hcell, hwz⟩⟩
  obtain ⟨a3, rfl, rfl, rfl, w3⟩ := open_int Tryz.underlying3 (hval 3 3 v3 rfl rfl) h3
  clear hA0 hval0
  refine (walk v0 a1 len1 cap1 z1 a2 len2 cap2 z2 a3 W w0 w1 w2 w3 hLm).mono fun e W' ⟨he, bel⟩ => ?_
  subst he
  exact ⟨_, rfl, _, _, _, [], _, q, hW', trodAll_mk1 (shut_bool Tryz.underlying4 _), (trodAll_cons_mk (Below.trod laidOut (by kernel_rfl) (of_decide_eq_true (by kernel_rfl)) k0 bel lt0) (trodAll_cons_mk (Below.trod laidOut (by kernel_rfl) (of_decide_eq_true (by kernel_rfl)) k1 bel lt1) (trodAll_cons_mk (Below.trod laidOut (by kernel_rfl) (of_decide_eq_true (by kernel_rfl)) k2 bel lt2) (trodAll_cons_mk (shut_int Tryz.underlying3 w3) trodAll_mk0)))), bel.trodVars laidOut (by kernel_rfl) hV, bel.frame _, fun h => by cases h⟩

theorem over : Rows.fnExactTraceOfRow.holds Tryz.pinned (OpenSpec.ofChange Rows.fnExactTraceOfSpec) :=
  OpenClaim.holds_of_wide 8 Tryz.f8 rfl rfl rfl rfl rfl rfl rfl ⟨rfl, rfl, rfl, rfl, rfl⟩ rfl rfl rfl rfl rfl (by kernel_rfl) Tryz.func8 (by kernel_rfl)
    (of_decide_eq_true (by kernel_rfl)) (by unfold Func.isWrapper; first | (rw [if_pos (by decide +kernel)]; kernel_rfl) | (rw [if_neg (by decide +kernel)]; exact ⟨rfl, rfl⟩))
    (fun os started H enc _ => lifted os started H enc)

/-- ████ THE STATEMENT: THE TIED CARD ████ -/
theorem proved : Rows.FnExactTraceOfCardSaid :=
  Claim7.holds_tied_plain_at .later [] [.data] true (true, "89678b23e05d9388c7d7b3961f95b3cb35559b567b202cd024a2e3cd47837206") true
    over (fun _ h => by cases h) (by kernel_rfl) (fun _ h => by cases h) fnExactTraceOf_row_tie rfl ⟨rfl, rfl⟩ (by kernel_rfl) rfl
    (fun f fn hf hfn => by
      obtain rfl : f = 8 := Option.some.inj ((show Tryz.prog.funcNamed "loop.example/g00983/laws.FnExactTraceOf" = some 8 by kernel_rfl).symm.trans hf) |>.symm
      obtain rfl : fn = Tryz.f8 := (Option.some.inj (Tryz.func8.symm.trans hfn)).symm
      exact ⟨by kernel_rfl, fun j t ht => by
        rw [Tryz.params8] at ht
        have hm : t ∈ [40, 27, 27, 3] := by simpa using Array.mem_of_getElem? ht
        have hall : ([40, 27, 27, 3].all fun u => !Tryz.prog.wantsStandIn u) = true := by kernel_rfl
        exact (show Tryz.prog.wantsStandIn t = false by simpa using List.all_eq_true.1 hall t hm)⟩)
    (by kernel_rfl)
#print axioms proved
end Go.Proofs.YtmgeecdgebemdaaGreatDoor.fnExactTraceOf
