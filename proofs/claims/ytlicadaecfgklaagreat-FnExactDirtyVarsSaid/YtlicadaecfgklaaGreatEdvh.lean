/- For every program, all rows of numbers and every number FnExactDirtyVars returns true and leaves its arguments as they were; no condition. -/
import Derived.Test.YtlicadaecfgklaaGreatRows
import Derived.WalkKit
import Derived.ProofKit
import Derived.OpenShut
import Derived.ShutString
import Derived.ChangeOld
import Derived.Below
import Derived.Test.YtlicadaecfgklaaGreatGHub8
import Derived.Test.YtlicadaecfgklaaGreatGHub9
import Derived.Test.YtlicadaecfgklaaGreatGHub37
import Derived.Test.YtlicadaecfgklaaGreatGHub39
import Derived.Deep.RegionHeld3
namespace Go.Proofs.YtlicadaecfgklaaGreat.fnExactDirtyVars
open Go.ChangeShapes Go.WideShapes Go.ChangeAt Go.RowKit
open Go.ChangeMaps (open_string shut_string)
set_option linter.unusedVariables false

theorem own : ownKnob Tryz.prog.godebug = none := by kernel_rfl
theorem laidOut : laidOutB Tryz.prog = true := by kernel_rfl

/-- A row of numbers that came in: nil, or 'cap' cells that hold 'zs', of which the first 'len' are its elements. -/
def IsRow (k : IntKind) (w : World) (a : Option Addr) (len cap : Nat) (zs : List Int) : Prop :=
  (a = none ∧ len = 0 ∧ cap = 0 ∧ zs = []) ∨
  ∃ x, a = some x ∧ len ≤ cap ∧ cap ≤ maxLen ∧ zs.length = cap ∧ (∀ i, i < zs.length → w.cell? (x.add i) = some (.int k (zs.getD i 0))) ∧ ∀ n ∈ zs, (Lit.int k n).wf = true

open Go.Proofs.YtlicadaecfgklaaGreat.row Go.Proofs.YtlicadaecfgklaaGreat.val Go.Proofs.YtlicadaecfgklaaGreat.expr Go.Proofs.YtlicadaecfgklaaGreat.opn Go.Proofs.YtlicadaecfgklaaGreat.stm Go.Proofs.YtlicadaecfgklaaGreat.blk Go.Proofs.YtlicadaecfgklaaGreat.prg Go.Proofs.YtlicadaecfgklaaGreat.mrk Go.Proofs.YtlicadaecfgklaaGreat.sets Go.Proofs.YtlicadaecfgklaaGreat.ctl Go.Proofs.YtlicadaecfgklaaGreat.mem Go.Proofs.YtlicadaecfgklaaGreat.rcv
theorem row_of {w : World} {a0 : Option Addr} {len0 cap0 : Nat} {z0 : List Int} (w0 : IsRow .i64 w a0 len0 cap0 z0) : Row w a0 len0 (z0.take len0) ∧ len0 ≤ maxLen := by
  rcases w0 with ⟨rfl, rfl, _, rfl⟩ | ⟨x, rfl, hl, hm, hz, hcell, _⟩
  · exact ⟨Row.none_ w, by decide⟩
  · exact ⟨Row.of_ints hl hz hcell, by omega⟩
theorem word_of {w : World} {a0 : Option Addr} {len0 cap0 : Nat} {z0 : List Int} (w0 : IsRow .i64 w a0 len0 cap0 z0) : -9223372036854775808 ≤ (z0.take len0).getD 8 0 ∧ (z0.take len0).getD 8 0 ≤ 9223372036854775807 := by
  rw [List.getD_eq_getElem?_getD]
  cases hq : (z0.take len0)[8]? with
  | none => exact ⟨by decide, by decide⟩
  | some x =>
    rcases w0 with ⟨_, _, _, e⟩ | ⟨_, _, _, _, _, _, hwf⟩
    · subst e; simp at hq
    · exact bounds_i64 (hwf x (List.mem_of_mem_take (List.mem_of_getElem? hq)))
theorem low_high {u v : Value} {b : Nat} (hv : ∀ q, v.ownBlock = some q → q < b) (hu : ∀ q, u.ownBlock = some q → b ≤ q) : v.ownBlock = none ∨ v.ownBlock ≠ u.ownBlock := by
  cases hq : v.ownBlock with
  | none => exact .inl rfl
  | some q => right; intro e; have := hv q hq; have := hu q e.symm; omega
theorem high_low {u v : Value} {b : Nat} (hv : ∀ q, v.ownBlock = some q → b ≤ q) (hu : ∀ q, u.ownBlock = some q → q < b) : v.ownBlock = none ∨ v.ownBlock ≠ u.ownBlock := by
  cases hq : v.ownBlock with
  | none => exact .inl rfl
  | some q => right; intro e; have := hv q hq; have := hu q e.symm; omega
theorem own_ge {w : World} {base n sz : Nat} {e : TypeId} {v : Value} {xs : List Value} (h : w.ownsRow base e sz v n xs) {b : Nat} (hb : b ≤ base) : ∀ q, v.ownBlock = some q → b ≤ q := fun q hq => Nat.le_trans hb (h.lt q hq).1
theorem none_okx (ad : Option Addr) (n c : Nat) : (Value.slice ad n c).ownBlock = none ∨ (Value.slice ad n c).ownBlock ≠ none := by cases ad <;> simp [Value.ownBlock]
theorem box_apart {v : Value} {g b : Nat} (hg : g < b) (hv : ∀ q, v.ownBlock = some q → b ≤ q) : some g ≠ v.ownBlock := fun e => by have := hv g e.symm; omega
theorem box_apart2 {v : Value} {g b : Nat} (hv : ∀ q, v.ownBlock = some q → q < b) (hg : b ≤ g) : some g ≠ v.ownBlock := fun e => by have := hv g e.symm; omega
theorem len_of {P : List Tk} (hz : Sizes P) : ∀ m ∈ P.map (fun t => t.b.length), m ≤ 1048576 := by
  intro m hm
  obtain ⟨t, ht, rfl⟩ := List.mem_map.1 hm
  exact hz.2 t ht
set_option maxHeartbeats 8000000 in
set_option maxRecDepth 100000 in
theorem walk (a0 : Value) (a1 : Option Addr) (len1 cap1 : Nat) (z1 : List Int) (w : World) (v0 : IsPrgV w a0) (v1 : IsRow .i64 w a1 len1 cap1 z1) :
    Calls Tryz.prog 3 #[a0, .slice a1 len1 cap1] w fun e w' => e = .returned (.bool true) ∧ Below w.heap.size w w' := by
  obtain ⟨ad, n, cap, P, rfl, hnm, hbm, hR⟩ := v0
  have HW8a := word_of v1
  obtain ⟨hR1, hm1⟩ := row_of v1
  clear v1
  unfold maxLen at hm1
  obtain ⟨L1, hL1⟩ : ∃ L, L = z1.take len1 := ⟨_, rfl⟩
  rw [← hL1] at hR1 HW8a
  have HW8 := Lib.hid HW8a
  clear HW8a
  clear hL1
  obtain ⟨x0, hW⟩ : ∃ W, W = w.alloc (.cells #[.slice ad n cap] 24) := ⟨_, rfl⟩
  have hbx : Box w.heap.size #[.slice ad n cap] 24 x0 := by rw [hW]; exact Box.new _ _ _
  have hbw : Below w.heap.size w x0 := by rw [hW]; exact below_new _ _
  have hwl : w.heap.size < x0.heap.size := by rw [hW]; simp
  have HP := Lib.hid (And.intro hbw (And.intro (hR.below hbw) (And.intro hbm hbx)))
  have HW := Lib.hid hW.symm
  have HR1 := Lib.hid (hR1.below hbw)
  clear hbx hbw hR hbm hW hR1
  by_cases hbig1 : (1048576 : Int) < len1
  · go_enter Tryz.func3, Tryz.ntmps3
    go_wp2
    go_ret
    exact ⟨rfl, below_new _ _⟩
  have hsm1 : (len1 : Int) ≤ 1048576 := by omega
  clear hbig1
  go_enter Tryz.func3, Tryz.ntmps3
  go_wp2_with (go_at_call 4; rw [HW.out]; (with_reducible refine (szprogram_any _ ad n cap P hnm HP.out.2.2.1 HP.out.2.1).mono ?_); rintro e x1 ⟨rz, rfl, hr0, hr1, hrS, hb1⟩; refine Hid.out ?_)
  have HZ1 := Lib.hid hb1.size
  have H1 := Lib.hid (And.intro (HP.out.2.2.2.below hb1) hb1)
  clear hb1
  by_cases hrn : rz < 0
  · refine Lib.hid ?_
    go_wp2
    go_ret
    exact ⟨rfl, HP.out.1.trans (H1.out.2.mono (Nat.le_of_lt hwl))⟩
  have HZZ := Lib.hid (hrS.out (by omega))
  have hnn : (n : Int) ≤ 1048576 := by have h1 := HZZ.out.1; have h2 := HP.out.2.1.1; omega
  clear hrS
  obtain ⟨U, hU⟩ := dirtyIs_ex P L1
  have hUl : (U.length : Int) ≤ 8 := by have := hU.size; omega
  have HU := Lib.hid hU
  clear hU
  refine Lib.hid ?_
  have HHi_boxp := Lib.hid hwl
  go_wp2_with (first
      | (refine wpList_load_row rfl 24 _ rfl w.heap.size rfl _ _ _ _ H1.out.1 Tryz.underlying24 rfl (by kernel_rfl) ?_)
      | (go_at_call 6; (with_reducible refine (toprogram_box _ ad n cap P HZZ.out (HP.out.2.1.below H1.out.2)).mono ?_); rintro e x2 ⟨bx2, rfl, hT, hb⟩; refine Hid.out ?_))
  have HZ2 := Lib.hid hb.size
  have H2 := Lib.hid (And.intro (H1.out.1.below hb) (And.intro hT.out (below_then H1.out.2 hb)))
  clear hT hb
  refine Lib.hid ?_
  go_wp2_with (go_at_call 7; (with_reducible refine (toInts_new _ a1 len1 cap1 L1 hsm1 (HR1.out.below H2.out.2.2)).mono ?_); rintro e x3 ⟨gx3, rfl, ho, hb⟩; refine Hid.out ?_)
  have HZ3 := Lib.hid hb.size
  have HLo_tr1 := Lib.hid (own_ge ho (Nat.le_refl _))
  have HHi_tr1 := Lib.hid (fun q hq => (ho.lt q hq).2)
  have H3 := Lib.hid (And.intro (H2.out.1.below hb) (And.intro (H2.out.2.1.below hb) (And.intro ho (below_then H2.out.2.2 hb))))
  clear ho hb
  refine Lib.hid ?_
  go_wp2_with (first
      | (go_at_call 5; (with_reducible refine (spec_dirtyvars bx2 n n P HZZ.out _ H3.out.2.1.row (some ⟨gx3, 0, none⟩) len1 len1 L1 hsm1 (Nat.le_refl _) (Row.of_own H3.out.2.2.1) U HU.out).mono ?_); rintro e x4 ⟨adx4, mx4, cx4, rfl, ho, hb⟩; refine Hid.out ?_))
  have HZ4 := Lib.hid hb.size
  have HLo_res0 := Lib.hid (own_ge ho (Nat.le_refl _))
  have HHi_res0 := Lib.hid (fun q hq => (ho.lt q hq).2)
  have hlres0 : U.length = mx4 := own_len ho
  have H4 := Lib.hid (And.intro (H3.out.1.below hb) (And.intro ho (below_then H3.out.2.2.2 hb)))
  clear ho hb
  refine Lib.hid ?_
  go_wp2_with (first
      | (refine wpList_load_row rfl 24 _ rfl w.heap.size rfl _ _ _ _ H4.out.1 Tryz.underlying24 rfl (by kernel_rfl) ?_)
      | (go_at_call 6; (with_reducible refine (toprogram_box _ ad n cap P HZZ.out (HP.out.2.1.below H4.out.2.2)).mono ?_); rintro e x5 ⟨bx5, rfl, hT, hb⟩; refine Hid.out ?_))
  have HZ5 := Lib.hid hb.size
  have H5 := Lib.hid (And.intro (H4.out.1.below hb) (And.intro (H4.out.2.1.kept (grown_below hb none) (none_okx _ _ _)) (And.intro hT.out (And.intro (Below.refl x5.heap.size x5) (below_then H4.out.2.2 hb)))))
  clear hT hb
  refine Lib.hid ?_
  obtain ⟨gp, hgp, hgpl, HMX⟩ := mk_of H5.out.2.2.1
  subst hgp
  have HMXH := Lib.hid HMX
  clear HMX
  have HA := Lib.hid (And.intro (Box.new x5 #[.slice none 0 0] 30) (below_new x5 (.cells #[.slice none 0 0] 30)))
  go_wp2_with ((refine wpList_store_box rfl 30 _ _ rfl x5.heap.size _ _ HA.out.1 #[.slice (some ⟨gp, 0, none⟩) n n] rfl rfl rfl (by kernel_rfl) (by simp [Value.oneCell']) ?_); intro x6 hx hg; refine Hid.out ?_)
  have hb : Below x5.heap.size x5 x6 := HA.out.2.grown hg HA.out.2.size (fun j hj => by cases hj; exact Nat.le_refl _)
  have HZ6 := Lib.hid hb.size
  have HHi_boxx := Lib.hid hx.lt
  have H6 := Lib.hid (And.intro (H5.out.1.below hb) (And.intro (H5.out.2.1.kept (grown_below hb none) (none_okx _ _ _)) (And.intro (H5.out.2.2.1.below hb) (And.intro (below_then H5.out.2.2.2.1 hb) (And.intro hx (below_then H5.out.2.2.2.2 hb))))))
  clear hx hg hb HA
  refine Lib.hid ?_
  go_wp2_with (go_at_call 7; (with_reducible refine (toInts_new _ a1 len1 cap1 L1 hsm1 (HR1.out.below H6.out.2.2.2.2.2)).mono ?_); rintro e x7 ⟨gx7, rfl, ho, hb⟩; refine Hid.out ?_)
  have HZ7 := Lib.hid hb.size
  have HLo_xr1 := Lib.hid (own_ge ho (Nat.le_refl _))
  have HHi_xr1 := Lib.hid (fun q hq => (ho.lt q hq).2)
  have H7 := Lib.hid (And.intro (H6.out.1.below hb) (And.intro (H6.out.2.1.kept (grown_below hb none) (none_okx _ _ _)) (And.intro (H6.out.2.2.1.below hb) (And.intro (below_then H6.out.2.2.2.1 hb) (And.intro (H6.out.2.2.2.2.1.below hb) (And.intro ho (below_then H6.out.2.2.2.2.2 hb)))))))
  clear ho hb
  refine Lib.hid ?_
  go_wp2_with (first
      | (refine wpList_load_row rfl 30 _ rfl x5.heap.size rfl _ _ _ _ H7.out.2.2.2.2.1 Tryz.underlying30 rfl (by kernel_rfl) ?_)
      | (go_at_call 8; (with_reducible refine (impl_dirtyvars (some ⟨gp, 0, none⟩) n n P HZZ.out (Nat.le_refl _) _ H7.out.2.2.1.row (some ⟨gx7, 0, none⟩) len1 len1 L1 hsm1 (Nat.le_refl _) (Row.of_own H7.out.2.2.2.2.2.1) HW8.out U HU.out).mono ?_); rintro e x8 ⟨adx8, mx8, cx8, rfl, ho, hb⟩; refine Hid.out ?_))
  have HZ8 := Lib.hid hb.size
  have HLo_res1 := Lib.hid (own_ge ho (Nat.le_refl _))
  have HHi_res1 := Lib.hid (fun q hq => (ho.lt q hq).2)
  have hlres1 : U.length = mx8 := own_len ho
  have H8 := Lib.hid (And.intro (H7.out.1.below hb) (And.intro (H7.out.2.1.kept (grown_below hb none) (none_okx _ _ _)) (And.intro (H7.out.2.2.1.below hb) (And.intro (below_then H7.out.2.2.2.1 hb) (And.intro (H7.out.2.2.2.2.1.below hb) (And.intro (H7.out.2.2.2.2.2.1.kept (grown_below hb none) (none_okx _ _ _)) (And.intro ho (below_then H7.out.2.2.2.2.2.2 hb))))))))
  clear ho hb
  refine Lib.hid ?_
  obtain rfl : mx8 = mx4 := by omega
  have hmU : (mx8 : Int) ≤ 8 := by omega
  go_wp2_with (go_at_call 9; (with_reducible refine (eqInts_any _ _ _ _ _ _ U (by omega) (Row.of_own H8.out.2.2.2.2.2.2.1) (Row.of_own H8.out.2.1)).mono ?_); rintro e x9 ⟨rfl, hg⟩; refine Hid.out ?_)
  have HZ9 := Lib.hid hg.size
  have H9 := Lib.hid (And.intro (H8.out.1.below (below_grown hg)) (And.intro (H8.out.2.1.kept (grown_below (below_grown hg) none) (none_okx _ _ _)) (And.intro (H8.out.2.2.1.below (below_grown hg)) (And.intro (below_then H8.out.2.2.2.1 (below_grown hg)) (And.intro (H8.out.2.2.2.2.1.below (below_grown hg)) (And.intro (H8.out.2.2.2.2.2.1.kept (grown_below (below_grown hg) none) (none_okx _ _ _)) (And.intro (H8.out.2.2.2.2.2.2.1.kept (grown_below (below_grown hg) none) (none_okx _ _ _)) (below_then H8.out.2.2.2.2.2.2.2 (below_grown hg)))))))))
  clear hg
  refine Lib.hid ?_
  have HD := Lib.hid (show Below x9.heap.size x9 x9.drew from Below.drew (Below.refl _ x9))
  have c8 : x9.drew.cell? ⟨w.heap.size, 0, none⟩ = some (.slice ad n cap) := H9.out.1.cell 0
  have g8 : x9.drew.cell? ⟨x5.heap.size, 0, none⟩ = some (.slice (some ⟨gp, 0, none⟩) n n) := H9.out.2.2.2.2.1.cell 0
  have l8 : w.heap.size < x9.drew.heap.size := H9.out.1.lt
  have m8 : x5.heap.size < x9.drew.heap.size := H9.out.2.2.2.2.1.lt
  go_wp2
  go_region_held3 (fun w' => w'.cell? ⟨w.heap.size, 0, none⟩ = some (.slice ad n cap) ∧ w'.cell? ⟨x5.heap.size, 0, none⟩ = some (.slice (some ⟨gp, 0, none⟩) n n))
    (first
      | (with_reducible exact ⟨c8, g8⟩)
      | (with_reducible exact ⟨(hbb.cell (p := ⟨w.heap.size, 0, none⟩) (Nat.lt_of_lt_of_le l8 hba.size)).trans ((hba.cell (p := ⟨w.heap.size, 0, none⟩) l8).trans c8), (hbb.cell (p := ⟨x5.heap.size, 0, none⟩) (Nat.lt_of_lt_of_le m8 hba.size)).trans ((hba.cell (p := ⟨x5.heap.size, 0, none⟩) m8).trans g8)⟩)
      | (with_reducible exact ⟨(hba.cell (p := ⟨w.heap.size, 0, none⟩) l8).trans c8, (hba.cell (p := ⟨x5.heap.size, 0, none⟩) m8).trans g8⟩))
    (first
      | (go_at_call 6; (with_reducible refine (toprogram_any _ ad n cap P HZZ.out (HP.out.2.1.below (below_then H9.out.2.2.2.2.2.2.2 HD.out))).mono ?_); rintro e x10 ⟨b9, rfl, hT9, hba⟩)
      | (go_at_call 10; (with_reducible refine (eqprogram_any _ (some ⟨gp, 0, none⟩) b9 n n n P HZZ.out ((H9.out.2.2.1.row.below HD.out).below hba) hT9.out.row).mono ?_); rintro e x11 ⟨rfl, hbb⟩))
  all_goals
    have hbG := below_then (below_then HD.out hba) hbb
    have HZ10 := Lib.hid (show x9.heap.size ≤ x10.heap.size from hba.size)
    have HZ11 := Lib.hid (show x10.heap.size ≤ x11.heap.size from hbb.size)
    have H10 := Lib.hid (And.intro (H9.out.1.below hbG) (And.intro (H9.out.2.1.kept (grown_below hbG none) (none_okx _ _ _)) (And.intro (H9.out.2.2.1.below hbG) (And.intro (below_then H9.out.2.2.2.1 hbG) (And.intro (H9.out.2.2.2.2.1.below hbG) (And.intro (H9.out.2.2.2.2.2.1.kept (grown_below hbG none) (none_okx _ _ _)) (And.intro (H9.out.2.2.2.2.2.2.1.kept (grown_below hbG none) (none_okx _ _ _)) (below_then H9.out.2.2.2.2.2.2.2 hbG))))))))
    clear hbG hba hbb hT9 c8 g8 l8 m8 HD
    refine Lib.hid ?_
    go_wp2_with (go_at_call 7; (with_reducible refine (toInts_new _ a1 len1 cap1 L1 hsm1 (HR1.out.below H10.out.2.2.2.2.2.2.2)).mono ?_); rintro e x12 ⟨gx12, rfl, ho, hb⟩; refine Hid.out ?_)
    have HZ12 := Lib.hid hb.size
    have HLo_yr1 := Lib.hid (own_ge ho (Nat.le_refl _))
    have HHi_yr1 := Lib.hid (fun q hq => (ho.lt q hq).2)
    have H11 := Lib.hid (And.intro (H10.out.1.below hb) (And.intro (H10.out.2.1.kept (grown_below hb none) (none_okx _ _ _)) (And.intro (H10.out.2.2.1.below hb) (And.intro (below_then H10.out.2.2.2.1 hb) (And.intro (H10.out.2.2.2.2.1.below hb) (And.intro (H10.out.2.2.2.2.2.1.kept (grown_below hb none) (none_okx _ _ _)) (And.intro (H10.out.2.2.2.2.2.2.1.kept (grown_below hb none) (none_okx _ _ _)) (And.intro ho (below_then H10.out.2.2.2.2.2.2.2 hb)))))))))
    clear ho hb
    refine Lib.hid ?_
    go_wp2_with (go_at_call 9; (with_reducible refine (eqInts_any _ _ _ _ _ _ L1 hsm1 (Row.of_own H11.out.2.2.2.2.2.1) (Row.of_own H11.out.2.2.2.2.2.2.2.1)).mono ?_); rintro e x13 ⟨rfl, hg⟩; refine Hid.out ?_)
    have HZ13 := Lib.hid hg.size
    have H12 := Lib.hid (And.intro (H11.out.1.below (below_grown hg)) (And.intro (H11.out.2.1.kept (grown_below (below_grown hg) none) (none_okx _ _ _)) (And.intro (H11.out.2.2.1.below (below_grown hg)) (And.intro (below_then H11.out.2.2.2.1 (below_grown hg)) (And.intro (H11.out.2.2.2.2.1.below (below_grown hg)) (And.intro (H11.out.2.2.2.2.2.1.kept (grown_below (below_grown hg) none) (none_okx _ _ _)) (And.intro (H11.out.2.2.2.2.2.2.1.kept (grown_below (below_grown hg) none) (none_okx _ _ _)) (below_then H11.out.2.2.2.2.2.2.2.2 (below_grown hg)))))))))
    clear hg
    refine Lib.hid ?_
    have HMW := Lib.hid (markprogram_wide x4.heap.size x5.heap.size x13 gp n n _ (HMXH.out.below (show Below x5.heap.size x5 x13 from H12.out.2.2.2.1)) (len_of HZZ.out) (Nat.le_trans (Nat.le_trans (Nat.le_trans (Nat.le_trans (Nat.le_trans (Nat.le_trans (Nat.le_trans (Nat.le_trans HZ5.out HZ6.out) HZ7.out) HZ8.out) HZ9.out) HZ10.out) HZ11.out) HZ12.out) HZ13.out) hgpl 1 (by omega) (by omega) (by omega))
    go_wp2_with (first
        | (refine wpList_load_row rfl 30 _ rfl x5.heap.size rfl _ _ _ _ H12.out.2.2.2.2.1 Tryz.underlying30 rfl (by kernel_rfl) ?_)
        | (go_at_call 11; (with_reducible refine HMW.out.mono ?_); rintro e x14 ⟨K0, rfl, hk0, hk1, hbf, hsz, _⟩; refine Hid.out ?_))
    have HZ14 := Lib.hid hsz
    obtain ⟨k0, rfl⟩ : ∃ k : Nat, K0 = k := ⟨K0.toNat, by omega⟩
    have hk2 : (k0 : Int) ≤ 10000000000000 := by omega
    have H13 := Lib.hid (And.intro (box_far H12.out.1 hbf (.inl (Nat.lt_of_lt_of_le HHi_boxp.out (Nat.le_trans (Nat.le_trans (Nat.le_trans HZ1.out HZ2.out) HZ3.out) HZ4.out)))) (And.intro (own_far H12.out.2.1 hbf (fun q hq => .inl (Nat.lt_of_lt_of_le (HHi_res0.out q hq) (Nat.le_refl _)))) (And.intro (own_far H12.out.2.2.2.2.2.1 hbf (fun q hq => .inr (Nat.le_trans HZ6.out (HLo_xr1.out q hq)))) (And.intro (own_far H12.out.2.2.2.2.2.2.1 hbf (fun q hq => .inr (Nat.le_trans (Nat.le_trans HZ6.out HZ7.out) (HLo_res1.out q hq)))) (H12.out.2.2.2.2.2.2.2.trans (hbf.1.mono (Nat.le_trans (Nat.le_trans (Nat.le_trans HZ1.out HZ2.out) HZ3.out) HZ4.out)))))))
    clear hbf hsz HMW hk0 hk1
    refine Lib.hid ?_
    go_wp2_with (go_at_call 12; refine (markInts_wide _ _ _ _ _ k0 _ hsm1 (by omega) H13.out.2.2.1).mono ?_; rintro e x15 ⟨rfl, hg, Lm, ho, hMk⟩; refine Hid.out ?_)
    have HZ15 := Lib.hid hg.size
    have H14 := Lib.hid (And.intro (H13.out.1.grown hg (box_apart (Nat.lt_of_lt_of_le HHi_boxp.out (Nat.le_trans (Nat.le_trans (Nat.le_trans (Nat.le_trans (Nat.le_trans HZ1.out HZ2.out) HZ3.out) HZ4.out) HZ5.out) HZ6.out)) HLo_xr1.out)) (And.intro (H13.out.2.1.kept hg (low_high (fun q hq => Nat.lt_of_lt_of_le (HHi_res0.out q hq) (Nat.le_trans HZ5.out HZ6.out)) HLo_xr1.out)) (And.intro (H13.out.2.2.2.1.kept hg (high_low (fun q hq => Nat.le_trans (Nat.le_refl _) (HLo_res1.out q hq)) HHi_xr1.out)) (H13.out.2.2.2.2.grown hg H13.out.2.2.2.2.size (fun q hq => Nat.le_trans (Nat.le_trans (Nat.le_trans (Nat.le_trans (Nat.le_trans (Nat.le_trans HZ1.out HZ2.out) HZ3.out) HZ4.out) HZ5.out) HZ6.out) (HLo_xr1.out q hq))))))
    clear ho hg hMk
    refine Lib.hid ?_
    have hkk : ¬ (((k0 + len1) : Nat) : Int) < 0 := by omega
    go_wp2_with (go_at_call 9; (with_reducible refine (eqInts_any _ _ _ _ _ _ U (by omega) (Row.of_own H14.out.2.2.1) (Row.of_own H14.out.2.1)).mono ?_); rintro e x16 ⟨rfl, hg⟩; refine Hid.out ?_)
    have HZ16 := Lib.hid hg.size
    have H15 := Lib.hid (And.intro (H14.out.1.below (below_grown hg)) (And.intro (H14.out.2.1.kept (grown_below (below_grown hg) none) (none_okx _ _ _)) (And.intro (H14.out.2.2.1.kept (grown_below (below_grown hg) none) (none_okx _ _ _)) (below_then H14.out.2.2.2 (below_grown hg)))))
    clear hg
    refine Lib.hid ?_
    go_wp2_with (go_at_call 12; refine (markInts_any _ _ _ _ _ 1 _ (by omega) (by omega) H15.out.2.2.1).mono ?_; rintro e x17 ⟨rfl, hg, Lm, ho, hMk⟩; refine Hid.out ?_)
    have HZ17 := Lib.hid hg.size
    have HM := Lib.hid hMk
    have H16 := Lib.hid (And.intro (H15.out.1.grown hg (box_apart (Nat.lt_of_lt_of_le HHi_boxp.out (Nat.le_trans (Nat.le_trans (Nat.le_trans (Nat.le_trans (Nat.le_trans (Nat.le_trans HZ1.out HZ2.out) HZ3.out) HZ4.out) HZ5.out) HZ6.out) HZ7.out)) HLo_res1.out)) (And.intro (H15.out.2.1.kept hg (low_high (fun q hq => Nat.lt_of_lt_of_le (HHi_res0.out q hq) (Nat.le_trans (Nat.le_trans HZ5.out HZ6.out) HZ7.out)) HLo_res1.out)) (And.intro ho (H15.out.2.2.2.grown hg H15.out.2.2.2.size (fun q hq => Nat.le_trans (Nat.le_trans (Nat.le_trans (Nat.le_trans (Nat.le_trans (Nat.le_trans (Nat.le_trans HZ1.out HZ2.out) HZ3.out) HZ4.out) HZ5.out) HZ6.out) HZ7.out) (HLo_res1.out q hq))))))
    clear ho hg hMk
    refine Lib.hid ?_
    have HLo_resm := HLo_res1
    go_wp2_with (go_at_call 13; refine (heldInts_any _ _ _ _ 1 _ (by omega) (by omega) (Row.of_own H16.out.2.2.1) HM.out).mono ?_; rintro e x18 ⟨rfl, hg⟩; refine Hid.out ?_)
    have HZ18 := Lib.hid hg.size
    have H17 := Lib.hid (And.intro (H16.out.1.below (below_grown hg)) (And.intro (H16.out.2.1.kept (grown_below (below_grown hg) none) (none_okx _ _ _)) (And.intro (H16.out.2.2.1.kept (grown_below (below_grown hg) none) (none_okx _ _ _)) (below_then H16.out.2.2.2 (below_grown hg)))))
    clear hg
    refine Lib.hid ?_
    go_wp2_with (first
      | (refine wpList_load_row rfl 24 _ rfl w.heap.size rfl _ _ _ _ H17.out.1 Tryz.underlying24 rfl (by kernel_rfl) ?_)
      | (go_at_call 6; (with_reducible refine (toprogram_box _ ad n cap P HZZ.out (HP.out.2.1.below H17.out.2.2.2)).mono ?_); rintro e x19 ⟨bx19, rfl, hT, hb⟩; refine Hid.out ?_))
    have HZ19 := Lib.hid hb.size
    have H18 := Lib.hid (And.intro (H17.out.1.below hb) (And.intro (H17.out.2.1.kept (grown_below hb none) (none_okx _ _ _)) (And.intro (H17.out.2.2.1.kept (grown_below hb none) (none_okx _ _ _)) (And.intro hT.out (below_then H17.out.2.2.2 hb)))))
    clear hT hb
    refine Lib.hid ?_
    go_wp2_with (go_at_call 7; (with_reducible refine (toInts_new _ a1 len1 cap1 L1 hsm1 (HR1.out.below H18.out.2.2.2.2)).mono ?_); rintro e x20 ⟨gx20, rfl, ho, hb⟩; refine Hid.out ?_)
    have HZ20 := Lib.hid hb.size
    have HLo_zr1 := Lib.hid (own_ge ho (Nat.le_refl _))
    have HHi_zr1 := Lib.hid (fun q hq => (ho.lt q hq).2)
    have H19 := Lib.hid (And.intro (H18.out.1.below hb) (And.intro (H18.out.2.1.kept (grown_below hb none) (none_okx _ _ _)) (And.intro (H18.out.2.2.1.kept (grown_below hb none) (none_okx _ _ _)) (And.intro (H18.out.2.2.2.1.below hb) (And.intro ho (below_then H18.out.2.2.2.2 hb))))))
    clear ho hb
    refine Lib.hid ?_
    go_wp2_with (first
      | (go_at_call 8; (with_reducible refine (impl_dirtyvars bx19 n n P HZZ.out (Nat.le_refl _) _ H19.out.2.2.2.1.row (some ⟨gx20, 0, none⟩) len1 len1 L1 hsm1 (Nat.le_refl _) (Row.of_own H19.out.2.2.2.2.1) HW8.out U HU.out).mono ?_); rintro e x21 ⟨adx21, mx21, cx21, rfl, ho, hb⟩; refine Hid.out ?_))
    have HZ21 := Lib.hid hb.size
    have HLo_res2 := Lib.hid (own_ge ho (Nat.le_refl _))
    have HHi_res2 := Lib.hid (fun q hq => (ho.lt q hq).2)
    have hlres2 : U.length = mx21 := own_len ho
    have H20 := Lib.hid (And.intro (H19.out.1.below hb) (And.intro (H19.out.2.1.kept (grown_below hb none) (none_okx _ _ _)) (And.intro (H19.out.2.2.1.kept (grown_below hb none) (none_okx _ _ _)) (And.intro ho (below_then H19.out.2.2.2.2.2 hb)))))
    clear ho hb
    refine Lib.hid ?_
    obtain rfl : mx21 = mx8 := by omega
    go_wp2_with (go_at_call 9; (with_reducible refine (eqInts_any _ _ _ _ _ _ U (by omega) (Row.of_own H20.out.2.2.2.1) (Row.of_own H20.out.2.1)).mono ?_); rintro e x22 ⟨rfl, hg⟩; refine Hid.out ?_)
    have HZ22 := Lib.hid hg.size
    have H21 := Lib.hid (And.intro (H20.out.1.below (below_grown hg)) (And.intro (H20.out.2.1.kept (grown_below (below_grown hg) none) (none_okx _ _ _)) (And.intro (H20.out.2.2.1.kept (grown_below (below_grown hg) none) (none_okx _ _ _)) (And.intro (H20.out.2.2.2.1.kept (grown_below (below_grown hg) none) (none_okx _ _ _)) (below_then H20.out.2.2.2.2 (below_grown hg))))))
    clear hg
    refine Lib.hid ?_
    go_wp2_with (go_at_call 13; refine (heldInts_any _ _ _ _ 1 _ (by omega) (by omega) (Row.of_own H21.out.2.2.1) HM.out).mono ?_; rintro e x23 ⟨rfl, hg⟩; refine Hid.out ?_)
    have HZ23 := Lib.hid hg.size
    have H22 := Lib.hid (And.intro (H21.out.1.below (below_grown hg)) (And.intro (H21.out.2.1.kept (grown_below (below_grown hg) none) (none_okx _ _ _)) (And.intro (H21.out.2.2.1.kept (grown_below (below_grown hg) none) (none_okx _ _ _)) (And.intro (H21.out.2.2.2.1.kept (grown_below (below_grown hg) none) (none_okx _ _ _)) (below_then H21.out.2.2.2.2 (below_grown hg))))))
    clear hg
    refine Lib.hid ?_
    go_wp2
    go_ret
    exact ⟨rfl, HP.out.1.trans (H22.out.2.2.2.2.mono (Nat.le_of_lt hwl))⟩

/-! ### THE ROW's STEP -/
set_option maxRecDepth 100000 in
theorem lifted (os : Os) (started : os.Started) (H : Type) (enc : TypeId × Value → H) :
    ReturnsInHanded {} Tryz.checked os 3 .any (Rows.fnExactDirtyVarsSpec.pre6 enc Tryz.prog Tryz.f3 Rows.fnExactDirtyVarsRow.domain false) (Rows.fnExactDirtyVarsSpec.post enc Tryz.prog Tryz.f3 false true false false) := by
  refine returnsInHanded_of_change (C := Tryz.checked) own started (by kernel_rfl) Tryz.func3
    (ChangeSpec.witness6 (enc := enc) (C := Tryz.checked) false ⟨#[], #[.agg #[.slice none 0 0], .slice none 0 0], []⟩ 8 (by kernel_rfl) (by kernel_rfl) (by kernel_rfl) (by kernel_rfl)) ?_
  intro W base args ds gs before hval0 hW hcnd _
  have hval : ∀ (j : Nat) t v, Tryz.f3.params[j]? = some t → args[j]? = some v → Value.okWide Tryz.prog W .any base t v := hval0
  have hW' := hW
  obtain ⟨p, q, hA0, hV, rfl, hfz, hnd⟩ := hW
  have hA : DataW.TrodAll enc Tryz.prog W 0 (fun _ => true) true Tryz.f3.params.toList args.toList ds p := hA0
  rw [Tryz.params3] at hA hval
  obtain ⟨v0, vs0, d0, ds0, p0, q0, hargs, rfl, rfl, h0, r0⟩ := trodAll_cons hA
  obtain ⟨v1, vs1, d1, ds1, p1, q1, rfl, rfl, rfl, h1, r1⟩ := trodAll_cons r0
  obtain ⟨rfl, rfl, rfl⟩ := trodAll_nil r1
  obtain rfl : args = #[v0, v1] := by cases args; simp_all
  obtain ⟨rfl, rfl⟩ := trodVars_none hV
  have k0 := h0
  have lt0 : ∀ x ∈ p0, x.block < W.heap.size := by obtain ⟨m, hm⟩ := k0; exact DataW.trod_lt m _ _ _ hm
  have w0 : IsPrgV W v0 := open_Program (hval 0 24 v0 rfl rfl) h0
  obtain ⟨a1, len1, cap1, rfl⟩ := okWide_slice Tryz.underlying25 (hval 1 25 v1 rfl rfl)
  have k1 := h1
  have lt1 : ∀ x ∈ p1, x.block < W.heap.size := by obtain ⟨m, hm⟩ := k1; exact DataW.trod_lt m _ _ _ hm
  obtain ⟨z1, w1⟩ : ∃ zs, IsRow .i64 W a1 len1 cap1 zs := by
    obtain ⟨fuel, hf⟩ := h1
    rcases open_ints Tryz.underlying25 Tryz.underlying3 (by kernel_rfl) hf with ⟨hcs, _⟩ | ⟨x, l, c, zs, hcs, _, hl, hm, hz, _, hcell, hwz⟩
    · simp [Value.cells] at hcs
      obtain ⟨rfl, rfl, rfl⟩ := hcs
      exact ⟨[], .inl ⟨rfl, rfl, rfl, rfl⟩⟩
    · simp [Value.cells] at hcs
      obtain ⟨rfl, rfl, rfl⟩ := hcs
      exact ⟨zs, .inr ⟨_, rfl, hl, hm, by simpa using hz, hcell, hwz⟩⟩
  clear hA0 hval0
  refine (walk v0 a1 len1 cap1 z1 W w0 w1).mono fun e W' ⟨he, bel⟩ => ?_
  subst he
  exact ⟨_, rfl, _, _, _, [], _, [], hW', trodAll_mk1 (shut_bool Tryz.underlying4 _), (trodAll_cons_mk (Below.trod laidOut (by kernel_rfl) (of_decide_eq_true (by kernel_rfl)) k0 bel lt0) (trodAll_cons_mk (Below.trod laidOut (by kernel_rfl) (of_decide_eq_true (by kernel_rfl)) k1 bel lt1) trodAll_mk0)), rfl, bel.frame _, fun h => by cases h⟩

theorem over : Rows.fnExactDirtyVarsRow.holds Tryz.pinned (OpenSpec.ofChange Rows.fnExactDirtyVarsSpec) :=
  OpenClaim.holds_of_wide 3 Tryz.f3 rfl rfl rfl rfl rfl rfl rfl ⟨rfl, rfl, rfl, rfl, rfl⟩ rfl rfl rfl rfl rfl (by kernel_rfl) Tryz.func3 (by kernel_rfl)
    (of_decide_eq_true (by kernel_rfl)) (by unfold Func.isWrapper; first | (rw [if_pos (by decide +kernel)]; kernel_rfl) | (rw [if_neg (by decide +kernel)]; exact ⟨rfl, rfl⟩))
    (fun os started H enc _ => lifted os started H enc)

/-- ████ THE STATEMENT ████ -/
theorem proved : Rows.FnExactDirtyVarsSaid := over
#print axioms proved
end Go.Proofs.YtlicadaecfgklaaGreat.fnExactDirtyVars
