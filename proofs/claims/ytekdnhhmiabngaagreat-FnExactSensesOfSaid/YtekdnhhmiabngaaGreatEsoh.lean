/- For every program, all rows of numbers and every number FnExactSensesOf returns true and leaves its arguments as they were; no condition. -/
import Derived.Test.YtekdnhhmiabngaaGreatRows
import Derived.WalkKit
import Derived.ProofKit
import Derived.OpenShut
import Derived.ShutString
import Derived.ChangeOld
import Derived.Below
import Derived.Test.YtekdnhhmiabngaaGreatGHub5
import Derived.Test.YtekdnhhmiabngaaGreatGHub6
import Derived.Test.YtekdnhhmiabngaaGreatGHub13
import Derived.Test.YtekdnhhmiabngaaGreatGHub24
import Derived.Test.YtekdnhhmiabngaaGreatGHub25
import Derived.Test.YtekdnhhmiabngaaGreatGHub26
import Derived.Test.YtekdnhhmiabngaaGreatGHub29
import Derived.Test.YtekdnhhmiabngaaGreatGHub33
import Derived.Test.YtekdnhhmiabngaaGreatGHub34
import Derived.Test.YtekdnhhmiabngaaGreatGHub37
import Derived.Test.YtekdnhhmiabngaaGreatGHub35
import Derived.Test.YtekdnhhmiabngaaGreatGHub2
import Derived.Test.YtekdnhhmiabngaaGreatGHub10
import Derived.Test.YtekdnhhmiabngaaGreatGHub38
import Derived.Test.YtekdnhhmiabngaaGreatGHub43
import Derived.Test.YtekdnhhmiabngaaGreatGHub42
import Derived.Deep.RegionHeld3
namespace Go.Proofs.YtekdnhhmiabngaaGreat.fnExactSensesOf
open Go.ChangeShapes Go.WideShapes Go.ChangeAt Go.RowKit
open Go.ChangeMaps (open_string shut_string)
set_option linter.unusedVariables false

theorem own : ownKnob Tryz.prog.godebug = none := by kernel_rfl
theorem laidOut : laidOutB Tryz.prog = true := by kernel_rfl

/-- A row of numbers that came in: nil, or 'cap' cells that hold 'zs', of which the first 'len' are its elements. -/
def IsRow (k : IntKind) (w : World) (a : Option Addr) (len cap : Nat) (zs : List Int) : Prop :=
  (a = none ∧ len = 0 ∧ cap = 0 ∧ zs = []) ∨
  ∃ x, a = some x ∧ len ≤ cap ∧ cap ≤ maxLen ∧ zs.length = cap ∧ (∀ i, i < zs.length → w.cell? (x.add i) = some (.int k (zs.getD i 0))) ∧ ∀ n ∈ zs, (Lit.int k n).wf = true

open Go.Proofs.YtekdnhhmiabngaaGreat.row Go.Proofs.YtekdnhhmiabngaaGreat.val Go.Proofs.YtekdnhhmiabngaaGreat.expr Go.Proofs.YtekdnhhmiabngaaGreat.opn Go.Proofs.YtekdnhhmiabngaaGreat.stm Go.Proofs.YtekdnhhmiabngaaGreat.blk Go.Proofs.YtekdnhhmiabngaaGreat.prg Go.Proofs.YtekdnhhmiabngaaGreat.mrk Go.Proofs.YtekdnhhmiabngaaGreat.exe
theorem row_of {w : World} {a0 : Option Addr} {len0 cap0 : Nat} {z0 : List Int} (w0 : IsRow .i64 w a0 len0 cap0 z0) : Row w a0 len0 (z0.take len0) ∧ len0 ≤ maxLen := by
  rcases w0 with ⟨rfl, rfl, _, rfl⟩ | ⟨x, rfl, hl, hm, hz, hcell, _⟩
  · exact ⟨Row.none_ w, by decide⟩
  · exact ⟨Row.of_ints hl hz hcell, by omega⟩
theorem low_high {u v : Value} {b : Nat} (hv : ∀ q, v.ownBlock = some q → q < b) (hu : ∀ q, u.ownBlock = some q → b ≤ q) : v.ownBlock = none ∨ v.ownBlock ≠ u.ownBlock := by
  cases hq : v.ownBlock with
  | none => exact .inl rfl
  | some q => right; intro e; have := hv q hq; have := hu q e.symm; omega
theorem high_low {u v : Value} {b : Nat} (hv : ∀ q, v.ownBlock = some q → b ≤ q) (hu : ∀ q, u.ownBlock = some q → q < b) : v.ownBlock = none ∨ v.ownBlock ≠ u.ownBlock := by
  cases hq : v.ownBlock with
  | none => exact .inl rfl
  | some q => right; intro e; have := hv q hq; have := hu q e.symm; omega
theorem own_ge {w : World} {base n sz : Nat} {e : TypeId} {v : Value} {xs : List Value} (h : w.ownsRow base e sz v n xs) {b : Nat} (hb : b ≤ base) : ∀ q, v.ownBlock = some q → b ≤ q := fun q hq => Nat.le_trans hb (h.lt q hq).1
theorem none_okx (ad : Option Addr) (n c : Nat) : (Value.slice ad n c).ownBlock = none ∨ (Value.slice ad n c).ownBlock ≠ none := by cases ad <;> simp [Value.ownBlock]
theorem box_apart {v : Value} {g b : Nat} (hg : g < b) (hv : ∀ q, v.ownBlock = some q → b ≤ q) : some g ≠ v.ownBlock := fun e => by have := hv g e.symm; omega
theorem box_apart2 {v : Value} {g b : Nat} (hv : ∀ q, v.ownBlock = some q → q < b) (hg : b ≤ g) : some g ≠ v.ownBlock := fun e => by have := hv g e.symm; omega
theorem len_of {P : List Tk} (hz : Sizes P) : ∀ m ∈ P.map (fun t => t.b.length), m ≤ 1048576 := by
  intro m hm
  obtain ⟨t, ht, rfl⟩ := List.mem_map.1 hm
  exact hz.2 t ht
set_option maxHeartbeats 8000000 in
set_option maxRecDepth 100000 in
theorem walk (a0 : Value) (a1 : Int) (a2 : Option Addr) (len2 cap2 : Nat) (z2 : List Int) (a3 : Option Addr) (len3 cap3 : Nat) (z3 : List Int) (a4 : Int) (w : World) (v0 : IsPrgV w a0) (_v1 : (Lit.int .i64 a1).wf = true) (v2 : IsRow .i64 w a2 len2 cap2 z2) (v3 : IsRow .i64 w a3 len3 cap3 z3) (_v4 : (Lit.int .i64 a4).wf = true) :
    Calls Tryz.prog 7 #[a0, .int .i64 a1, .slice a2 len2 cap2, .slice a3 len3 cap3, .int .i64 a4] w fun e w' => e = .returned (.bool true) ∧ Below w.heap.size w w' := by
  obtain ⟨ad, n, cap, P, rfl, hnm, hbm, hR⟩ := v0
  obtain ⟨hR2, hm2⟩ := row_of v2
  clear v2
  unfold maxLen at hm2
  obtain ⟨L2, hL2⟩ : ∃ L, L = z2.take len2 := ⟨_, rfl⟩
  rw [← hL2] at hR2
  clear hL2
  obtain ⟨hR3, hm3⟩ := row_of v3
  clear v3
  unfold maxLen at hm3
  obtain ⟨L3, hL3⟩ : ∃ L, L = z3.take len3 := ⟨_, rfl⟩
  rw [← hL3] at hR3
  clear hL3
  obtain ⟨x0, hW⟩ : ∃ W, W = w.alloc (.cells #[.slice ad n cap] 46) := ⟨_, rfl⟩
  have hbx : Box w.heap.size #[.slice ad n cap] 46 x0 := by rw [hW]; exact Box.new _ _ _
  have hbw : Below w.heap.size w x0 := by rw [hW]; exact below_new _ _
  have hwl : w.heap.size < x0.heap.size := by rw [hW]; simp
  have HP := Lib.hid (And.intro hbw (And.intro (hR.below hbw) (And.intro hbm hbx)))
  have HW := Lib.hid hW.symm
  have HR2 := Lib.hid (hR2.below hbw)
  have HR3 := Lib.hid (hR3.below hbw)
  clear hbx hbw hR hbm hW hR2 hR3
  by_cases hbig2 : (1048576 : Int) < len2
  · go_enter Tryz.func7, Tryz.ntmps7
    go_wp2
    go_ret
    exact ⟨rfl, below_new _ _⟩
  have hsm2 : (len2 : Int) ≤ 1048576 := by omega
  clear hbig2
  by_cases hbig3 : (1048576 : Int) < len3
  · go_enter Tryz.func7, Tryz.ntmps7
    go_wp2
    go_ret
    exact ⟨rfl, below_new _ _⟩
  have hsm3 : (len3 : Int) ≤ 1048576 := by omega
  clear hbig3
  go_enter Tryz.func7, Tryz.ntmps7
  go_wp2_with (go_at_call 24; rw [HW.out]; (with_reducible refine (szprogram_any _ ad n cap P hnm HP.out.2.2.1 HP.out.2.1).mono ?_); rintro e x1 ⟨rz, rfl, hr0, hr1, hrS, hb1⟩; refine Hid.out ?_)
  have HZ1 := Lib.hid hb1.size
  have H1 := Lib.hid (And.intro (HP.out.2.2.2.below hb1) hb1)
  clear hb1
  by_cases hrn : rz < 0
  · refine Lib.hid ?_
    go_wp2
    go_ret
    exact ⟨rfl, HP.out.1.trans (H1.out.2.mono (Nat.le_of_lt hwl))⟩
  have HZZ := Lib.hid (hrS.out (by omega))
  have hnn : (n : Int) ≤ 1048576 := by have h1 := HZZ.out.1; have h2 := HP.out.2.1.1; omega
  clear hrS
  obtain ⟨U, hU⟩ := sensIs_ex P L2 L3 a1 a4
  have hUl : (U.length : Int) ≤ 3000 := by
    rcases hU with ⟨h, _⟩ | ⟨_, t', T', h, e⟩
    · rw [h]; simp
    · rw [e]; have := h.small (liveSrc L3 a4); omega
  have HU := Lib.hid hU
  clear hU
  refine Lib.hid ?_
  have HHi_boxp := Lib.hid hwl
  go_wp2_with (first
      | (refine wpList_load_row rfl 46 _ rfl w.heap.size rfl _ _ _ _ H1.out.1 Tryz.underlying46 rfl (by kernel_rfl) ?_)
      | (go_at_call 26; (with_reducible refine (toprogram_box _ ad n cap P HZZ.out (HP.out.2.1.below H1.out.2)).mono ?_); rintro e x2 ⟨bx2, rfl, hT, hb⟩; refine Hid.out ?_))
  have HZ2 := Lib.hid hb.size
  have H2 := Lib.hid (And.intro (H1.out.1.below hb) (And.intro hT.out (below_then H1.out.2 hb)))
  clear hT hb
  refine Lib.hid ?_
  go_wp2_with (go_at_call 27; (with_reducible refine (toInts_new _ a2 len2 cap2 L2 hsm2 (HR2.out.below H2.out.2.2)).mono ?_); rintro e x3 ⟨gx3, rfl, ho, hb⟩; refine Hid.out ?_)
  have HZ3 := Lib.hid hb.size
  have HLo_tr2 := Lib.hid (own_ge ho (Nat.le_refl _))
  have HHi_tr2 := Lib.hid (fun q hq => (ho.lt q hq).2)
  have H3 := Lib.hid (And.intro (H2.out.1.below hb) (And.intro (H2.out.2.1.below hb) (And.intro ho (below_then H2.out.2.2 hb))))
  clear ho hb
  refine Lib.hid ?_
  go_wp2_with (go_at_call 27; (with_reducible refine (toInts_new _ a3 len3 cap3 L3 hsm3 (HR3.out.below H3.out.2.2.2)).mono ?_); rintro e x4 ⟨gx4, rfl, ho, hb⟩; refine Hid.out ?_)
  have HZ4 := Lib.hid hb.size
  have HLo_tr3 := Lib.hid (own_ge ho (Nat.le_refl _))
  have HHi_tr3 := Lib.hid (fun q hq => (ho.lt q hq).2)
  have H4 := Lib.hid (And.intro (H3.out.1.below hb) (And.intro (H3.out.2.1.below hb) (And.intro (H3.out.2.2.1.kept (grown_below hb none) (none_okx _ _ _)) (And.intro ho (below_then H3.out.2.2.2 hb)))))
  clear ho hb
  refine Lib.hid ?_
  go_wp2_with (first
      | (go_at_call 35; (with_reducible refine (spec_sensesof bx2 n n P HZZ.out _ H4.out.2.1.row (some ⟨gx3, 0, none⟩) len2 len2 L2 hsm2 (Row.of_own H4.out.2.2.1) (some ⟨gx4, 0, none⟩) len3 len3 L3 hsm3 (Row.of_own H4.out.2.2.2.1) a1 a4 U HU.out).mono ?_); rintro e x5 ⟨adx5, mx5, cx5, rfl, ho, hb⟩; refine Hid.out ?_))
  have HZ5 := Lib.hid hb.size
  have HLo_res0 := Lib.hid (own_ge ho (Nat.le_refl _))
  have HHi_res0 := Lib.hid (fun q hq => (ho.lt q hq).2)
  have hlres0 : U.length = mx5 := own_len ho
  have H5 := Lib.hid (And.intro (H4.out.1.below hb) (And.intro ho (below_then H4.out.2.2.2.2 hb)))
  clear ho hb
  refine Lib.hid ?_
  go_wp2_with (first
      | (refine wpList_load_row rfl 46 _ rfl w.heap.size rfl _ _ _ _ H5.out.1 Tryz.underlying46 rfl (by kernel_rfl) ?_)
      | (go_at_call 26; (with_reducible refine (toprogram_box _ ad n cap P HZZ.out (HP.out.2.1.below H5.out.2.2)).mono ?_); rintro e x6 ⟨bx6, rfl, hT, hb⟩; refine Hid.out ?_))
  have HZ6 := Lib.hid hb.size
  have H6 := Lib.hid (And.intro (H5.out.1.below hb) (And.intro (H5.out.2.1.kept (grown_below hb none) (none_okx _ _ _)) (And.intro hT.out (And.intro (Below.refl x6.heap.size x6) (below_then H5.out.2.2 hb)))))
  clear hT hb
  refine Lib.hid ?_
  obtain ⟨gp, hgp, hgpl, HMX⟩ := mk_of H6.out.2.2.1
  subst hgp
  have HMXH := Lib.hid HMX
  clear HMX
  have HA := Lib.hid (And.intro (Box.new x6 #[.slice none 0 0] 26) (below_new x6 (.cells #[.slice none 0 0] 26)))
  go_wp2_with ((refine wpList_store_box rfl 26 _ _ rfl x6.heap.size _ _ HA.out.1 #[.slice (some ⟨gp, 0, none⟩) n n] rfl rfl rfl (by kernel_rfl) (by simp [Value.oneCell']) ?_); intro x7 hx hg; refine Hid.out ?_)
  have hb : Below x6.heap.size x6 x7 := HA.out.2.grown hg HA.out.2.size (fun j hj => by cases hj; exact Nat.le_refl _)
  have HZ7 := Lib.hid hb.size
  have HHi_boxx := Lib.hid hx.lt
  have H7 := Lib.hid (And.intro (H6.out.1.below hb) (And.intro (H6.out.2.1.kept (grown_below hb none) (none_okx _ _ _)) (And.intro (H6.out.2.2.1.below hb) (And.intro (below_then H6.out.2.2.2.1 hb) (And.intro hx (below_then H6.out.2.2.2.2 hb))))))
  clear hx hg hb HA
  refine Lib.hid ?_
  go_wp2_with (go_at_call 27; (with_reducible refine (toInts_new _ a2 len2 cap2 L2 hsm2 (HR2.out.below H7.out.2.2.2.2.2)).mono ?_); rintro e x8 ⟨gx8, rfl, ho, hb⟩; refine Hid.out ?_)
  have HZ8 := Lib.hid hb.size
  have HLo_xr2 := Lib.hid (own_ge ho (Nat.le_refl _))
  have HHi_xr2 := Lib.hid (fun q hq => (ho.lt q hq).2)
  have H8 := Lib.hid (And.intro (H7.out.1.below hb) (And.intro (H7.out.2.1.kept (grown_below hb none) (none_okx _ _ _)) (And.intro (H7.out.2.2.1.below hb) (And.intro (below_then H7.out.2.2.2.1 hb) (And.intro (H7.out.2.2.2.2.1.below hb) (And.intro ho (below_then H7.out.2.2.2.2.2 hb)))))))
  clear ho hb
  refine Lib.hid ?_
  go_wp2_with (go_at_call 27; (with_reducible refine (toInts_new _ a3 len3 cap3 L3 hsm3 (HR3.out.below H8.out.2.2.2.2.2.2)).mono ?_); rintro e x9 ⟨gx9, rfl, ho, hb⟩; refine Hid.out ?_)
  have HZ9 := Lib.hid hb.size
  have HLo_xr3 := Lib.hid (own_ge ho (Nat.le_refl _))
  have HHi_xr3 := Lib.hid (fun q hq => (ho.lt q hq).2)
  have H9 := Lib.hid (And.intro (H8.out.1.below hb) (And.intro (H8.out.2.1.kept (grown_below hb none) (none_okx _ _ _)) (And.intro (H8.out.2.2.1.below hb) (And.intro (below_then H8.out.2.2.2.1 hb) (And.intro (H8.out.2.2.2.2.1.below hb) (And.intro (H8.out.2.2.2.2.2.1.kept (grown_below hb none) (none_okx _ _ _)) (And.intro ho (below_then H8.out.2.2.2.2.2.2 hb))))))))
  clear ho hb
  refine Lib.hid ?_
  go_wp2_with (first
      | (refine wpList_load_row rfl 26 _ rfl x6.heap.size rfl _ _ _ _ H9.out.2.2.2.2.1 Tryz.underlying26 rfl (by kernel_rfl) ?_)
      | (go_at_call 36; (with_reducible refine (impl_sensesof (some ⟨gp, 0, none⟩) n n P HZZ.out (Nat.le_refl _) _ H9.out.2.2.1.row (some ⟨gx8, 0, none⟩) len2 len2 L2 hsm2 (Nat.le_refl _) (Row.of_own H9.out.2.2.2.2.2.1) (some ⟨gx9, 0, none⟩) len3 len3 L3 hsm3 (Nat.le_refl _) (Row.of_own H9.out.2.2.2.2.2.2.1) a1 a4 U HU.out).mono ?_); rintro e x10 ⟨adx10, mx10, cx10, rfl, ho, hb⟩; refine Hid.out ?_))
  have HZ10 := Lib.hid hb.size
  have HLo_res1 := Lib.hid (own_ge ho (Nat.le_refl _))
  have HHi_res1 := Lib.hid (fun q hq => (ho.lt q hq).2)
  have hlres1 : U.length = mx10 := own_len ho
  have H10 := Lib.hid (And.intro (H9.out.1.below hb) (And.intro (H9.out.2.1.kept (grown_below hb none) (none_okx _ _ _)) (And.intro (H9.out.2.2.1.below hb) (And.intro (below_then H9.out.2.2.2.1 hb) (And.intro (H9.out.2.2.2.2.1.below hb) (And.intro (H9.out.2.2.2.2.2.1.kept (grown_below hb none) (none_okx _ _ _)) (And.intro (H9.out.2.2.2.2.2.2.1.kept (grown_below hb none) (none_okx _ _ _)) (And.intro ho (below_then H9.out.2.2.2.2.2.2.2 hb)))))))))
  clear ho hb
  refine Lib.hid ?_
  obtain rfl : mx10 = mx5 := by omega
  have hmU : (mx10 : Int) ≤ 3000 := by omega
  go_wp2_with (go_at_call 30; (with_reducible refine (eqInts_any _ _ _ _ _ _ U (by omega) (Row.of_own H10.out.2.2.2.2.2.2.2.1) (Row.of_own H10.out.2.1)).mono ?_); rintro e x11 ⟨rfl, hg⟩; refine Hid.out ?_)
  have HZ11 := Lib.hid hg.size
  have H11 := Lib.hid (And.intro (H10.out.1.below (below_grown hg)) (And.intro (H10.out.2.1.kept (grown_below (below_grown hg) none) (none_okx _ _ _)) (And.intro (H10.out.2.2.1.below (below_grown hg)) (And.intro (below_then H10.out.2.2.2.1 (below_grown hg)) (And.intro (H10.out.2.2.2.2.1.below (below_grown hg)) (And.intro (H10.out.2.2.2.2.2.1.kept (grown_below (below_grown hg) none) (none_okx _ _ _)) (And.intro (H10.out.2.2.2.2.2.2.1.kept (grown_below (below_grown hg) none) (none_okx _ _ _)) (And.intro (H10.out.2.2.2.2.2.2.2.1.kept (grown_below (below_grown hg) none) (none_okx _ _ _)) (below_then H10.out.2.2.2.2.2.2.2.2 (below_grown hg))))))))))
  clear hg
  refine Lib.hid ?_
  have HD := Lib.hid (show Below x11.heap.size x11 x11.drew from Below.drew (Below.refl _ x11))
  have c8 : x11.drew.cell? ⟨w.heap.size, 0, none⟩ = some (.slice ad n cap) := H11.out.1.cell 0
  have g8 : x11.drew.cell? ⟨x6.heap.size, 0, none⟩ = some (.slice (some ⟨gp, 0, none⟩) n n) := H11.out.2.2.2.2.1.cell 0
  have l8 : w.heap.size < x11.drew.heap.size := H11.out.1.lt
  have m8 : x6.heap.size < x11.drew.heap.size := H11.out.2.2.2.2.1.lt
  go_wp2
  go_region_held3 (fun w' => w'.cell? ⟨w.heap.size, 0, none⟩ = some (.slice ad n cap) ∧ w'.cell? ⟨x6.heap.size, 0, none⟩ = some (.slice (some ⟨gp, 0, none⟩) n n))
    (first
      | (with_reducible exact ⟨c8, g8⟩)
      | (with_reducible exact ⟨(hbb.cell (p := ⟨w.heap.size, 0, none⟩) (Nat.lt_of_lt_of_le l8 hba.size)).trans ((hba.cell (p := ⟨w.heap.size, 0, none⟩) l8).trans c8), (hbb.cell (p := ⟨x6.heap.size, 0, none⟩) (Nat.lt_of_lt_of_le m8 hba.size)).trans ((hba.cell (p := ⟨x6.heap.size, 0, none⟩) m8).trans g8)⟩)
      | (with_reducible exact ⟨(hba.cell (p := ⟨w.heap.size, 0, none⟩) l8).trans c8, (hba.cell (p := ⟨x6.heap.size, 0, none⟩) m8).trans g8⟩))
    (first
      | (go_at_call 26; (with_reducible refine (toprogram_any _ ad n cap P HZZ.out (HP.out.2.1.below (below_then H11.out.2.2.2.2.2.2.2.2 HD.out))).mono ?_); rintro e x12 ⟨b9, rfl, hT9, hba⟩)
      | (go_at_call 29; (with_reducible refine (eqprogram_any _ (some ⟨gp, 0, none⟩) b9 n n n P HZZ.out ((H11.out.2.2.1.row.below HD.out).below hba) hT9.out.row).mono ?_); rintro e x13 ⟨rfl, hbb⟩))
  all_goals
    have hbG := below_then (below_then HD.out hba) hbb
    have HZ12 := Lib.hid (show x11.heap.size ≤ x12.heap.size from hba.size)
    have HZ13 := Lib.hid (show x12.heap.size ≤ x13.heap.size from hbb.size)
    have H12 := Lib.hid (And.intro (H11.out.1.below hbG) (And.intro (H11.out.2.1.kept (grown_below hbG none) (none_okx _ _ _)) (And.intro (H11.out.2.2.1.below hbG) (And.intro (below_then H11.out.2.2.2.1 hbG) (And.intro (H11.out.2.2.2.2.1.below hbG) (And.intro (H11.out.2.2.2.2.2.1.kept (grown_below hbG none) (none_okx _ _ _)) (And.intro (H11.out.2.2.2.2.2.2.1.kept (grown_below hbG none) (none_okx _ _ _)) (And.intro (H11.out.2.2.2.2.2.2.2.1.kept (grown_below hbG none) (none_okx _ _ _)) (below_then H11.out.2.2.2.2.2.2.2.2 hbG)))))))))
    clear hbG hba hbb hT9 c8 g8 l8 m8 HD
    refine Lib.hid ?_
    go_wp2_with (go_at_call 27; (with_reducible refine (toInts_new _ a2 len2 cap2 L2 hsm2 (HR2.out.below H12.out.2.2.2.2.2.2.2.2)).mono ?_); rintro e x14 ⟨gx14, rfl, ho, hb⟩; refine Hid.out ?_)
    have HZ14 := Lib.hid hb.size
    have HLo_yr2 := Lib.hid (own_ge ho (Nat.le_refl _))
    have HHi_yr2 := Lib.hid (fun q hq => (ho.lt q hq).2)
    have H13 := Lib.hid (And.intro (H12.out.1.below hb) (And.intro (H12.out.2.1.kept (grown_below hb none) (none_okx _ _ _)) (And.intro (H12.out.2.2.1.below hb) (And.intro (below_then H12.out.2.2.2.1 hb) (And.intro (H12.out.2.2.2.2.1.below hb) (And.intro (H12.out.2.2.2.2.2.1.kept (grown_below hb none) (none_okx _ _ _)) (And.intro (H12.out.2.2.2.2.2.2.1.kept (grown_below hb none) (none_okx _ _ _)) (And.intro (H12.out.2.2.2.2.2.2.2.1.kept (grown_below hb none) (none_okx _ _ _)) (And.intro ho (below_then H12.out.2.2.2.2.2.2.2.2 hb))))))))))
    clear ho hb
    refine Lib.hid ?_
    go_wp2_with (go_at_call 30; (with_reducible refine (eqInts_any _ _ _ _ _ _ L2 hsm2 (Row.of_own H13.out.2.2.2.2.2.1) (Row.of_own H13.out.2.2.2.2.2.2.2.2.1)).mono ?_); rintro e x15 ⟨rfl, hg⟩; refine Hid.out ?_)
    have HZ15 := Lib.hid hg.size
    have H14 := Lib.hid (And.intro (H13.out.1.below (below_grown hg)) (And.intro (H13.out.2.1.kept (grown_below (below_grown hg) none) (none_okx _ _ _)) (And.intro (H13.out.2.2.1.below (below_grown hg)) (And.intro (below_then H13.out.2.2.2.1 (below_grown hg)) (And.intro (H13.out.2.2.2.2.1.below (below_grown hg)) (And.intro (H13.out.2.2.2.2.2.1.kept (grown_below (below_grown hg) none) (none_okx _ _ _)) (And.intro (H13.out.2.2.2.2.2.2.1.kept (grown_below (below_grown hg) none) (none_okx _ _ _)) (And.intro (H13.out.2.2.2.2.2.2.2.1.kept (grown_below (below_grown hg) none) (none_okx _ _ _)) (below_then H13.out.2.2.2.2.2.2.2.2.2 (below_grown hg))))))))))
    clear hg
    refine Lib.hid ?_
    go_wp2_with (go_at_call 27; (with_reducible refine (toInts_new _ a3 len3 cap3 L3 hsm3 (HR3.out.below H14.out.2.2.2.2.2.2.2.2)).mono ?_); rintro e x16 ⟨gx16, rfl, ho, hb⟩; refine Hid.out ?_)
    have HZ16 := Lib.hid hb.size
    have HLo_yr3 := Lib.hid (own_ge ho (Nat.le_refl _))
    have HHi_yr3 := Lib.hid (fun q hq => (ho.lt q hq).2)
    have H15 := Lib.hid (And.intro (H14.out.1.below hb) (And.intro (H14.out.2.1.kept (grown_below hb none) (none_okx _ _ _)) (And.intro (H14.out.2.2.1.below hb) (And.intro (below_then H14.out.2.2.2.1 hb) (And.intro (H14.out.2.2.2.2.1.below hb) (And.intro (H14.out.2.2.2.2.2.1.kept (grown_below hb none) (none_okx _ _ _)) (And.intro (H14.out.2.2.2.2.2.2.1.kept (grown_below hb none) (none_okx _ _ _)) (And.intro (H14.out.2.2.2.2.2.2.2.1.kept (grown_below hb none) (none_okx _ _ _)) (And.intro ho (below_then H14.out.2.2.2.2.2.2.2.2 hb))))))))))
    clear ho hb
    refine Lib.hid ?_
    go_wp2_with (go_at_call 30; (with_reducible refine (eqInts_any _ _ _ _ _ _ L3 hsm3 (Row.of_own H15.out.2.2.2.2.2.2.1) (Row.of_own H15.out.2.2.2.2.2.2.2.2.1)).mono ?_); rintro e x17 ⟨rfl, hg⟩; refine Hid.out ?_)
    have HZ17 := Lib.hid hg.size
    have H16 := Lib.hid (And.intro (H15.out.1.below (below_grown hg)) (And.intro (H15.out.2.1.kept (grown_below (below_grown hg) none) (none_okx _ _ _)) (And.intro (H15.out.2.2.1.below (below_grown hg)) (And.intro (below_then H15.out.2.2.2.1 (below_grown hg)) (And.intro (H15.out.2.2.2.2.1.below (below_grown hg)) (And.intro (H15.out.2.2.2.2.2.1.kept (grown_below (below_grown hg) none) (none_okx _ _ _)) (And.intro (H15.out.2.2.2.2.2.2.1.kept (grown_below (below_grown hg) none) (none_okx _ _ _)) (And.intro (H15.out.2.2.2.2.2.2.2.1.kept (grown_below (below_grown hg) none) (none_okx _ _ _)) (below_then H15.out.2.2.2.2.2.2.2.2.2 (below_grown hg))))))))))
    clear hg
    refine Lib.hid ?_
    have HMW := Lib.hid (markprogram_wide x5.heap.size x6.heap.size x17 gp n n _ (HMXH.out.below (show Below x6.heap.size x6 x17 from H16.out.2.2.2.1)) (len_of HZZ.out) (Nat.le_trans (Nat.le_trans (Nat.le_trans (Nat.le_trans (Nat.le_trans (Nat.le_trans (Nat.le_trans (Nat.le_trans (Nat.le_trans (Nat.le_trans (Nat.le_trans HZ6.out HZ7.out) HZ8.out) HZ9.out) HZ10.out) HZ11.out) HZ12.out) HZ13.out) HZ14.out) HZ15.out) HZ16.out) HZ17.out) hgpl 1 (by omega) (by omega) (by omega))
    go_wp2_with (first
        | (refine wpList_load_row rfl 26 _ rfl x6.heap.size rfl _ _ _ _ H16.out.2.2.2.2.1 Tryz.underlying26 rfl (by kernel_rfl) ?_)
        | (go_at_call 31; (with_reducible refine HMW.out.mono ?_); rintro e x18 ⟨K0, rfl, hk0, hk1, hbf, hsz, _⟩; refine Hid.out ?_))
    have HZ18 := Lib.hid hsz
    obtain ⟨k0, rfl⟩ : ∃ k : Nat, K0 = k := ⟨K0.toNat, by omega⟩
    have hk2 : (k0 : Int) ≤ 10000000000000 := by omega
    have H17 := Lib.hid (And.intro (box_far H16.out.1 hbf (.inl (Nat.lt_of_lt_of_le HHi_boxp.out (Nat.le_trans (Nat.le_trans (Nat.le_trans (Nat.le_trans HZ1.out HZ2.out) HZ3.out) HZ4.out) HZ5.out)))) (And.intro (own_far H16.out.2.1 hbf (fun q hq => .inl (Nat.lt_of_lt_of_le (HHi_res0.out q hq) (Nat.le_refl _)))) (And.intro (own_far H16.out.2.2.2.2.2.1 hbf (fun q hq => .inr (Nat.le_trans HZ7.out (HLo_xr2.out q hq)))) (And.intro (own_far H16.out.2.2.2.2.2.2.1 hbf (fun q hq => .inr (Nat.le_trans (Nat.le_trans HZ7.out HZ8.out) (HLo_xr3.out q hq)))) (And.intro (own_far H16.out.2.2.2.2.2.2.2.1 hbf (fun q hq => .inr (Nat.le_trans (Nat.le_trans (Nat.le_trans HZ7.out HZ8.out) HZ9.out) (HLo_res1.out q hq)))) (H16.out.2.2.2.2.2.2.2.2.trans (hbf.1.mono (Nat.le_trans (Nat.le_trans (Nat.le_trans (Nat.le_trans HZ1.out HZ2.out) HZ3.out) HZ4.out) HZ5.out))))))))
    clear hbf hsz HMW hk0 hk1
    refine Lib.hid ?_
    go_wp2_with (go_at_call 32; refine (markInts_wide _ _ _ _ _ k0 _ hsm2 (by omega) H17.out.2.2.1).mono ?_; rintro e x19 ⟨rfl, hg, Lm, ho, hMk⟩; refine Hid.out ?_)
    have HZ19 := Lib.hid hg.size
    have H18 := Lib.hid (And.intro (H17.out.1.grown hg (box_apart (Nat.lt_of_lt_of_le HHi_boxp.out (Nat.le_trans (Nat.le_trans (Nat.le_trans (Nat.le_trans (Nat.le_trans (Nat.le_trans HZ1.out HZ2.out) HZ3.out) HZ4.out) HZ5.out) HZ6.out) HZ7.out)) HLo_xr2.out)) (And.intro (H17.out.2.1.kept hg (low_high (fun q hq => Nat.lt_of_lt_of_le (HHi_res0.out q hq) (Nat.le_trans HZ6.out HZ7.out)) HLo_xr2.out)) (And.intro (H17.out.2.2.2.1.kept hg (high_low (fun q hq => Nat.le_trans (Nat.le_refl _) (HLo_xr3.out q hq)) HHi_xr2.out)) (And.intro (H17.out.2.2.2.2.1.kept hg (high_low (fun q hq => Nat.le_trans HZ9.out (HLo_res1.out q hq)) HHi_xr2.out)) (H17.out.2.2.2.2.2.grown hg H17.out.2.2.2.2.2.size (fun q hq => Nat.le_trans (Nat.le_trans (Nat.le_trans (Nat.le_trans (Nat.le_trans (Nat.le_trans (Nat.le_trans HZ1.out HZ2.out) HZ3.out) HZ4.out) HZ5.out) HZ6.out) HZ7.out) (HLo_xr2.out q hq)))))))
    clear ho hg hMk
    refine Lib.hid ?_
    go_wp2_with (go_at_call 32; refine (markInts_wide _ _ _ _ _ (k0 + len2) _ hsm3 (by omega) H18.out.2.2.1).mono ?_; rintro e x20 ⟨rfl, hg, Lm, ho, hMk⟩; refine Hid.out ?_)
    have HZ20 := Lib.hid hg.size
    have H19 := Lib.hid (And.intro (H18.out.1.grown hg (box_apart (Nat.lt_of_lt_of_le HHi_boxp.out (Nat.le_trans (Nat.le_trans (Nat.le_trans (Nat.le_trans (Nat.le_trans (Nat.le_trans (Nat.le_trans HZ1.out HZ2.out) HZ3.out) HZ4.out) HZ5.out) HZ6.out) HZ7.out) HZ8.out)) HLo_xr3.out)) (And.intro (H18.out.2.1.kept hg (low_high (fun q hq => Nat.lt_of_lt_of_le (HHi_res0.out q hq) (Nat.le_trans (Nat.le_trans HZ6.out HZ7.out) HZ8.out)) HLo_xr3.out)) (And.intro (H18.out.2.2.2.1.kept hg (high_low (fun q hq => Nat.le_trans (Nat.le_refl _) (HLo_res1.out q hq)) HHi_xr3.out)) (H18.out.2.2.2.2.grown hg H18.out.2.2.2.2.size (fun q hq => Nat.le_trans (Nat.le_trans (Nat.le_trans (Nat.le_trans (Nat.le_trans (Nat.le_trans (Nat.le_trans (Nat.le_trans HZ1.out HZ2.out) HZ3.out) HZ4.out) HZ5.out) HZ6.out) HZ7.out) HZ8.out) (HLo_xr3.out q hq))))))
    clear ho hg hMk
    refine Lib.hid ?_
    have hkk : ¬ ((((k0 + len2) + len3) : Nat) : Int) < 0 := by omega
    go_wp2_with (go_at_call 30; (with_reducible refine (eqInts_any _ _ _ _ _ _ U (by omega) (Row.of_own H19.out.2.2.1) (Row.of_own H19.out.2.1)).mono ?_); rintro e x21 ⟨rfl, hg⟩; refine Hid.out ?_)
    have HZ21 := Lib.hid hg.size
    have H20 := Lib.hid (And.intro (H19.out.1.below (below_grown hg)) (And.intro (H19.out.2.1.kept (grown_below (below_grown hg) none) (none_okx _ _ _)) (And.intro (H19.out.2.2.1.kept (grown_below (below_grown hg) none) (none_okx _ _ _)) (below_then H19.out.2.2.2 (below_grown hg)))))
    clear hg
    refine Lib.hid ?_
    go_wp2_with (go_at_call 32; refine (markInts_any _ _ _ _ _ 1 _ (by omega) (by omega) H20.out.2.2.1).mono ?_; rintro e x22 ⟨rfl, hg, Lm, ho, hMk⟩; refine Hid.out ?_)
    have HZ22 := Lib.hid hg.size
    have HM := Lib.hid hMk
    have H21 := Lib.hid (And.intro (H20.out.1.grown hg (box_apart (Nat.lt_of_lt_of_le HHi_boxp.out (Nat.le_trans (Nat.le_trans (Nat.le_trans (Nat.le_trans (Nat.le_trans (Nat.le_trans (Nat.le_trans (Nat.le_trans HZ1.out HZ2.out) HZ3.out) HZ4.out) HZ5.out) HZ6.out) HZ7.out) HZ8.out) HZ9.out)) HLo_res1.out)) (And.intro (H20.out.2.1.kept hg (low_high (fun q hq => Nat.lt_of_lt_of_le (HHi_res0.out q hq) (Nat.le_trans (Nat.le_trans (Nat.le_trans HZ6.out HZ7.out) HZ8.out) HZ9.out)) HLo_res1.out)) (And.intro ho (H20.out.2.2.2.grown hg H20.out.2.2.2.size (fun q hq => Nat.le_trans (Nat.le_trans (Nat.le_trans (Nat.le_trans (Nat.le_trans (Nat.le_trans (Nat.le_trans (Nat.le_trans (Nat.le_trans HZ1.out HZ2.out) HZ3.out) HZ4.out) HZ5.out) HZ6.out) HZ7.out) HZ8.out) HZ9.out) (HLo_res1.out q hq))))))
    clear ho hg hMk
    refine Lib.hid ?_
    have HLo_resm := HLo_res1
    go_wp2_with (go_at_call 37; refine (heldInts_any _ _ _ _ 1 _ (by omega) (by omega) (Row.of_own H21.out.2.2.1) HM.out).mono ?_; rintro e x23 ⟨rfl, hg⟩; refine Hid.out ?_)
    have HZ23 := Lib.hid hg.size
    have H22 := Lib.hid (And.intro (H21.out.1.below (below_grown hg)) (And.intro (H21.out.2.1.kept (grown_below (below_grown hg) none) (none_okx _ _ _)) (And.intro (H21.out.2.2.1.kept (grown_below (below_grown hg) none) (none_okx _ _ _)) (below_then H21.out.2.2.2 (below_grown hg)))))
    clear hg
    refine Lib.hid ?_
    go_wp2_with (first
      | (refine wpList_load_row rfl 46 _ rfl w.heap.size rfl _ _ _ _ H22.out.1 Tryz.underlying46 rfl (by kernel_rfl) ?_)
      | (go_at_call 26; (with_reducible refine (toprogram_box _ ad n cap P HZZ.out (HP.out.2.1.below H22.out.2.2.2)).mono ?_); rintro e x24 ⟨bx24, rfl, hT, hb⟩; refine Hid.out ?_))
    have HZ24 := Lib.hid hb.size
    have H23 := Lib.hid (And.intro (H22.out.1.below hb) (And.intro (H22.out.2.1.kept (grown_below hb none) (none_okx _ _ _)) (And.intro (H22.out.2.2.1.kept (grown_below hb none) (none_okx _ _ _)) (And.intro hT.out (below_then H22.out.2.2.2 hb)))))
    clear hT hb
    refine Lib.hid ?_
    go_wp2_with (go_at_call 27; (with_reducible refine (toInts_new _ a2 len2 cap2 L2 hsm2 (HR2.out.below H23.out.2.2.2.2)).mono ?_); rintro e x25 ⟨gx25, rfl, ho, hb⟩; refine Hid.out ?_)
    have HZ25 := Lib.hid hb.size
    have HLo_zr2 := Lib.hid (own_ge ho (Nat.le_refl _))
    have HHi_zr2 := Lib.hid (fun q hq => (ho.lt q hq).2)
    have H24 := Lib.hid (And.intro (H23.out.1.below hb) (And.intro (H23.out.2.1.kept (grown_below hb none) (none_okx _ _ _)) (And.intro (H23.out.2.2.1.kept (grown_below hb none) (none_okx _ _ _)) (And.intro (H23.out.2.2.2.1.below hb) (And.intro ho (below_then H23.out.2.2.2.2 hb))))))
    clear ho hb
    refine Lib.hid ?_
    go_wp2_with (go_at_call 27; (with_reducible refine (toInts_new _ a3 len3 cap3 L3 hsm3 (HR3.out.below H24.out.2.2.2.2.2)).mono ?_); rintro e x26 ⟨gx26, rfl, ho, hb⟩; refine Hid.out ?_)
    have HZ26 := Lib.hid hb.size
    have HLo_zr3 := Lib.hid (own_ge ho (Nat.le_refl _))
    have HHi_zr3 := Lib.hid (fun q hq => (ho.lt q hq).2)
    have H25 := Lib.hid (And.intro (H24.out.1.below hb) (And.intro (H24.out.2.1.kept (grown_below hb none) (none_okx _ _ _)) (And.intro (H24.out.2.2.1.kept (grown_below hb none) (none_okx _ _ _)) (And.intro (H24.out.2.2.2.1.below hb) (And.intro (H24.out.2.2.2.2.1.kept (grown_below hb none) (none_okx _ _ _)) (And.intro ho (below_then H24.out.2.2.2.2.2 hb)))))))
    clear ho hb
    refine Lib.hid ?_
    go_wp2_with (first
      | (go_at_call 36; (with_reducible refine (impl_sensesof bx24 n n P HZZ.out (Nat.le_refl _) _ H25.out.2.2.2.1.row (some ⟨gx25, 0, none⟩) len2 len2 L2 hsm2 (Nat.le_refl _) (Row.of_own H25.out.2.2.2.2.1) (some ⟨gx26, 0, none⟩) len3 len3 L3 hsm3 (Nat.le_refl _) (Row.of_own H25.out.2.2.2.2.2.1) a1 a4 U HU.out).mono ?_); rintro e x27 ⟨adx27, mx27, cx27, rfl, ho, hb⟩; refine Hid.out ?_))
    have HZ27 := Lib.hid hb.size
    have HLo_res2 := Lib.hid (own_ge ho (Nat.le_refl _))
    have HHi_res2 := Lib.hid (fun q hq => (ho.lt q hq).2)
    have hlres2 : U.length = mx27 := own_len ho
    have H26 := Lib.hid (And.intro (H25.out.1.below hb) (And.intro (H25.out.2.1.kept (grown_below hb none) (none_okx _ _ _)) (And.intro (H25.out.2.2.1.kept (grown_below hb none) (none_okx _ _ _)) (And.intro ho (below_then H25.out.2.2.2.2.2.2 hb)))))
    clear ho hb
    refine Lib.hid ?_
    obtain rfl : mx27 = mx10 := by omega
    go_wp2_with (go_at_call 30; (with_reducible refine (eqInts_any _ _ _ _ _ _ U (by omega) (Row.of_own H26.out.2.2.2.1) (Row.of_own H26.out.2.1)).mono ?_); rintro e x28 ⟨rfl, hg⟩; refine Hid.out ?_)
    have HZ28 := Lib.hid hg.size
    have H27 := Lib.hid (And.intro (H26.out.1.below (below_grown hg)) (And.intro (H26.out.2.1.kept (grown_below (below_grown hg) none) (none_okx _ _ _)) (And.intro (H26.out.2.2.1.kept (grown_below (below_grown hg) none) (none_okx _ _ _)) (And.intro (H26.out.2.2.2.1.kept (grown_below (below_grown hg) none) (none_okx _ _ _)) (below_then H26.out.2.2.2.2 (below_grown hg))))))
    clear hg
    refine Lib.hid ?_
    go_wp2_with (go_at_call 37; refine (heldInts_any _ _ _ _ 1 _ (by omega) (by omega) (Row.of_own H27.out.2.2.1) HM.out).mono ?_; rintro e x29 ⟨rfl, hg⟩; refine Hid.out ?_)
    have HZ29 := Lib.hid hg.size
    have H28 := Lib.hid (And.intro (H27.out.1.below (below_grown hg)) (And.intro (H27.out.2.1.kept (grown_below (below_grown hg) none) (none_okx _ _ _)) (And.intro (H27.out.2.2.1.kept (grown_below (below_grown hg) none) (none_okx _ _ _)) (And.intro (H27.out.2.2.2.1.kept (grown_below (below_grown hg) none) (none_okx _ _ _)) (below_then H27.out.2.2.2.2 (below_grown hg))))))
    clear hg
    refine Lib.hid ?_
    go_wp2
    go_ret
    exact ⟨rfl, HP.out.1.trans (H28.out.2.2.2.2.mono (Nat.le_of_lt hwl))⟩

/-! ### THE ROW's STEP -/
set_option maxRecDepth 100000 in
theorem lifted (os : Os) (started : os.Started) (H : Type) (enc : TypeId × Value → H) :
    ReturnsInHanded {} Tryz.checked os 7 .any (Rows.fnExactSensesOfSpec.pre6 enc Tryz.prog Tryz.f7 Rows.fnExactSensesOfRow.domain false) (Rows.fnExactSensesOfSpec.post enc Tryz.prog Tryz.f7 false true false false) := by
  refine returnsInHanded_of_change (C := Tryz.checked) own started (by kernel_rfl) Tryz.func7
    (ChangeSpec.witness6 (enc := enc) (C := Tryz.checked) false ⟨#[], #[.agg #[.slice none 0 0], .int .i64 0, .slice none 0 0, .slice none 0 0, .int .i64 0], []⟩ 8 (by kernel_rfl) (by kernel_rfl) (by kernel_rfl) (by kernel_rfl)) ?_
  intro W base args ds gs before hval0 hW hcnd _
  have hval : ∀ (j : Nat) t v, Tryz.f7.params[j]? = some t → args[j]? = some v → Value.okWide Tryz.prog W .any base t v := hval0
  have hW' := hW
  obtain ⟨p, q, hA0, hV, rfl, hfz, hnd⟩ := hW
  have hA : DataW.TrodAll enc Tryz.prog W 0 (fun _ => true) true Tryz.f7.params.toList args.toList ds p := hA0
  rw [Tryz.params7] at hA hval
  obtain ⟨v0, vs0, d0, ds0, p0, q0, hargs, rfl, rfl, h0, r0⟩ := trodAll_cons hA
  obtain ⟨v1, vs1, d1, ds1, p1, q1, rfl, rfl, rfl, h1, r1⟩ := trodAll_cons r0
  obtain ⟨v2, vs2, d2, ds2, p2, q2, rfl, rfl, rfl, h2, r2⟩ := trodAll_cons r1
  obtain ⟨v3, vs3, d3, ds3, p3, q3, rfl, rfl, rfl, h3, r3⟩ := trodAll_cons r2
  obtain ⟨v4, vs4, d4, ds4, p4, q4, rfl, rfl, rfl, h4, r4⟩ := trodAll_cons r3
  obtain ⟨rfl, rfl, rfl⟩ := trodAll_nil r4
  obtain rfl : args = #[v0, v1, v2, v3, v4] := by cases args; simp_all
  obtain ⟨rfl, rfl⟩ := trodVars_none hV
  have k0 := h0
  have lt0 : ∀ x ∈ p0, x.block < W.heap.size := by obtain ⟨m, hm⟩ := k0; exact DataW.trod_lt m _ _ _ hm
  have w0 : IsPrgV W v0 := open_Program (hval 0 46 v0 rfl rfl) h0
  obtain ⟨a1, rfl, rfl, rfl, w1⟩ := open_int Tryz.underlying3 (hval 1 3 v1 rfl rfl) h1
  obtain ⟨a2, len2, cap2, rfl⟩ := okWide_slice Tryz.underlying28 (hval 2 28 v2 rfl rfl)
  have k2 := h2
  have lt2 : ∀ x ∈ p2, x.block < W.heap.size := by obtain ⟨m, hm⟩ := k2; exact DataW.trod_lt m _ _ _ hm
  obtain ⟨z2, w2⟩ : ∃ zs, IsRow .i64 W a2 len2 cap2 zs := by
    obtain ⟨fuel, hf⟩ := h2
    rcases open_ints Tryz.underlying28 Tryz.underlying3 (by kernel_rfl) hf with ⟨hcs, _⟩ | ⟨x, l, c, zs, hcs, _, hl, hm, hz, _, hcell, hwz⟩
    · simp [Value.cells] at hcs
      obtain ⟨rfl, rfl, rfl⟩ := hcs
      exact ⟨[], .inl ⟨rfl, rfl, rfl, rfl⟩⟩
    · simp [Value.cells] at hcs
      obtain ⟨rfl, rfl, rfl⟩ := hcs
      exact ⟨zs, .inr ⟨_, rfl, hl, hm, by simpa using hz, hcell, hwz⟩⟩
  obtain ⟨a3, len3, cap3, rfl⟩ := okWide_slice Tryz.underlying28 (hval 3 28 v3 rfl rfl)
  have k3 := h3
  have lt3 : ∀ x ∈ p3, x.block < W.heap.size := by obtain ⟨m, hm⟩ := k3; exact DataW.trod_lt m _ _ _ hm
  obtain ⟨z3, w3⟩ : ∃ zs, IsRow .i64 W a3 len3 cap3 zs := by
    obtain ⟨fuel, hf⟩ := h3
    rcases open_ints Tryz.underlying28 Tryz.underlying3 (by kernel_rfl) hf with ⟨hcs, _⟩ | ⟨x, l, c, zs, hcs, _, hl, hm, hz, _, hcell, hwz⟩
    · simp [Value.cells] at hcs
      obtain ⟨rfl, rfl, rfl⟩ := hcs
      exact ⟨[], .inl ⟨rfl, rfl, rfl, rfl⟩⟩
    · simp [Value.cells] at hcs
      obtain ⟨rfl, rfl, rfl⟩ := hcs
      exact ⟨zs, .inr ⟨_, rfl, hl, hm, by simpa using hz, hcell, hwz⟩⟩
  obtain ⟨a4, rfl, rfl, rfl, w4⟩ := open_int Tryz.underlying3 (hval 4 3 v4 rfl rfl) h4
  clear hA0 hval0
  refine (walk v0 a1 a2 len2 cap2 z2 a3 len3 cap3 z3 a4 W w0 w1 w2 w3 w4).mono fun e W' ⟨he, bel⟩ => ?_
  subst he
  exact ⟨_, rfl, _, _, _, [], _, [], hW', trodAll_mk1 (shut_bool Tryz.underlying4 _), (trodAll_cons_mk (Below.trod laidOut (by kernel_rfl) (of_decide_eq_true (by kernel_rfl)) k0 bel lt0) (trodAll_cons_mk (shut_int Tryz.underlying3 w1) (trodAll_cons_mk (Below.trod laidOut (by kernel_rfl) (of_decide_eq_true (by kernel_rfl)) k2 bel lt2) (trodAll_cons_mk (Below.trod laidOut (by kernel_rfl) (of_decide_eq_true (by kernel_rfl)) k3 bel lt3) (trodAll_cons_mk (shut_int Tryz.underlying3 w4) trodAll_mk0))))), rfl, bel.frame _, fun h => by cases h⟩

theorem over : Rows.fnExactSensesOfRow.holds Tryz.pinned (OpenSpec.ofChange Rows.fnExactSensesOfSpec) :=
  OpenClaim.holds_of_wide 7 Tryz.f7 rfl rfl rfl rfl rfl rfl rfl ⟨rfl, rfl, rfl, rfl, rfl⟩ rfl rfl rfl rfl rfl (by kernel_rfl) Tryz.func7 (by kernel_rfl)
    (of_decide_eq_true (by kernel_rfl)) (by unfold Func.isWrapper; first | (rw [if_pos (by decide +kernel)]; kernel_rfl) | (rw [if_neg (by decide +kernel)]; exact ⟨rfl, rfl⟩))
    (fun os started H enc _ => lifted os started H enc)

/-- ████ THE STATEMENT ████ -/
theorem proved : Rows.FnExactSensesOfSaid := over
#print axioms proved
end Go.Proofs.YtekdnhhmiabngaaGreat.fnExactSensesOf
