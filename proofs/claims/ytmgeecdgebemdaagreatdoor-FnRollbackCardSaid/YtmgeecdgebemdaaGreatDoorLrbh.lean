/- For every input the law FnRollback returns true and leaves its argument as it was; no condition. -/
import Derived.Test.YtmgeecdgebemdaaGreatDoorRows
import Derived.WalkKit
import Derived.ProofKit
import Derived.OpenShut
import Derived.ShutString
import Derived.ChangeOld
import Derived.Below
import Derived.OpenVars
import Derived.ChangeVars
import Derived.Test.YtmgeecdgebemdaaGreatDoorCards
import Derived.Test.YtmgeecdgebemdaaGreatDoorTie
import Derived.LaidMore
import Derived.Stop.Joined
import Derived.SevenTiedAt
import Derived.MakeChecks
import Derived.Test.YtmgeecdgebemdaaGreatDoorGSig37
import Derived.Test.YtmgeecdgebemdaaGreatDoorGSig39
import Derived.Test.YtmgeecdgebemdaaGreatDoorGSig43
import Derived.Test.YtmgeecdgebemdaaGreatDoorGSig44
import Derived.Test.YtmgeecdgebemdaaGreatDoorGSig47
import Derived.Test.YtmgeecdgebemdaaGreatDoorGSig54
import Derived.Test.YtmgeecdgebemdaaGreatDoorGSig56
import Derived.Test.YtmgeecdgebemdaaGreatDoorGSig40
import Derived.BigQuiet
import Derived.Test.YtmgeecdgebemdaaGreatDoorGSig32
import Derived.Deep.RegionHeld3
import Derived.Deep.RegionLaw
namespace Go.Proofs.YtmgeecdgebemdaaGreatDoor.fnRollback
open Go.ChangeShapes Go.WideShapes Go.ChangeAt Go.RowKit
open Go.ChangeMaps (open_string shut_string)
set_option linter.unusedVariables false

theorem own : ownKnob Tryz.prog.godebug = none := by kernel_rfl
theorem laidOut : laidOutB Tryz.prog = true := by kernel_rfl

/-- WHAT THE WALK IS TOLD OF A SLICE OF INTEGERS THAT CAME IN: it is nil; or it leads to a row of 'cap' cells, the numbers 'zs' (the first 'len' are its elements, the rest its spare room), each fitting its kind. -/
def IsRow (k : IntKind) (w : World) (a : Option Addr) (len cap : Nat) (zs : List Int) : Prop :=
  (a = none ∧ len = 0 ∧ cap = 0 ∧ zs = []) ∨
  ∃ x, a = some x ∧ len ≤ cap ∧ cap ≤ maxLen ∧ zs.length = cap ∧ (∀ i, i < zs.length → w.cell? (x.add i) = some (.int k (zs.getD i 0))) ∧ ∀ n ∈ zs, (Lit.int k n).wf = true

open Go.WideMaps Go.WideElems
open Go.Proofs.YtmgeecdgebemdaaGreatDoor.row Go.Proofs.YtmgeecdgebemdaaGreatDoor.val Go.Proofs.YtmgeecdgebemdaaGreatDoor.expr Go.Proofs.YtmgeecdgebemdaaGreatDoor.cur Go.Proofs.YtmgeecdgebemdaaGreatDoor.stm Go.Proofs.YtmgeecdgebemdaaGreatDoor.blk Go.Proofs.YtmgeecdgebemdaaGreatDoor.prg Go.Proofs.YtmgeecdgebemdaaGreatDoor.exe Go.Proofs.YtmgeecdgebemdaaGreatDoor.grow Go.Proofs.YtmgeecdgebemdaaGreatDoor.ctl Go.Proofs.YtmgeecdgebemdaaGreatDoor.mem Go.Proofs.YtmgeecdgebemdaaGreatDoor.trc Go.Proofs.YtmgeecdgebemdaaGreatDoor.wrt
theorem rdg_vals {R : List Int} (h : RdgIn R) : allV R = true := (allV_iff _).2 (fun x hx => (isVal_iff _).2 (by have := h x hx; omega))
theorem sizes_of {P : List Tk} {n : Nat} (hl : P.length = n) (h3 : n ≤ 3) (h : ∀ t ∈ P, TkOk t) : Sizes P := ⟨by omega, fun t ht => by have := (h t ht).2.1; omega⟩
theorem mrowT {w : World} {B : Nat} {a : Option Addr} {n c : Nat} {M : List Mic} (h : w.ownsRow B 98 3 (.slice a n c) n (microsC M)) : MicroRow w a n M := by
  have hl : M.length = n := by have h1 := h.1; rw [microsC_len] at h1; omega
  refine ⟨hl, fun k hk => ?_⟩
  obtain ⟨g, c', e, _, hlt⟩ := h.form (by omega)
  cases e
  refine ⟨g, 0, M[k]'(by omega), rfl, hlt, by simp [show k < M.length by omega], fun j v hv => ?_⟩
  have hj : j < 3 := by have := (List.getElem?_eq_some_iff.1 hv).1; rw [microC_len] at this; exact this
  have h1 := h.cells (g := g) rfl (k * 3 + j) v (by rw [gcs_at microC_len (s := M[k]'(by omega)) (by simp [show k < M.length by omega]) j hj]; exact hv)
  rw [Addr.add_mid] at h1
  rw [show 0 + k * 3 + j = 0 + (k * 3 + j) by omega]
  exact h1
theorem mcapT {w : World} {B : Nat} {a : Option Addr} {n c s : Nat} {e : TypeId} {xs : List Value} (h : w.ownsRow B e s (.slice a n c) n xs) : n ≤ c := by
  rcases h.2 with ⟨e, e0⟩ | ⟨g', c', cur, e, _, _, h9, _⟩
  · cases e; omega
  · cases e; exact h9
theorem ne_own9 {v : Value} {a b g : Nat} (h : ∀ q, v.ownBlock = some q → a ≤ q ∧ q < b) (hg : g < a ∨ b ≤ g) : v.ownBlock = none ∨ v.ownBlock ≠ some g := by
  cases hq : v.ownBlock with
  | none => exact .inl rfl
  | some q => right; intro e; have := h q hq; have := Option.some.inj e; omega
theorem wrow_own9 {w : World} {B : Nat} {a : Option Addr} {n c : Nat} {L : List Wt} (h : w.ownsRow B 100 2 (.slice a n c) n (writesC L)) (hl : L.length = n) : WriteRow w a n L := by
  refine ⟨hl, fun k hk => ?_⟩
  obtain ⟨g, c', e, _, hlt⟩ := h.form (by omega)
  cases e
  refine ⟨g, 0, L[k]'(by omega), rfl, hlt, by simp [show k < L.length by omega], fun j v hv => ?_⟩
  have hj : j < 2 := by have := (List.getElem?_eq_some_iff.1 hv).1; rw [writeC_len] at this; exact this
  have h1 := h.cells (g := g) rfl (k * 2 + j) v (by rw [gcs_at writeC_len (s := L[k]'(by omega)) (by simp [show k < L.length by omega]) j hj]; exact hv)
  rw [Addr.add_mid] at h1
  rw [show 0 + k * 2 + j = 0 + (k * 2 + j) by omega]
  exact h1
theorem box_row9 {w : World} {g n : Nat} {X : List Int} (h : Box g (ivs X).toArray 3 w) (hl : X.length = n) : Row w (some ⟨g, 0, none⟩) n X := by
  refine ⟨hl, fun k hk => ⟨g, 0, X[k]'(by omega), rfl, h.lt, by simp [show k < X.length by omega], ?_⟩⟩
  rw [Nat.zero_add, h.cell]; simp [ivs, show k < X.length by omega]
theorem has_q9 (w : World) (a : Option Addr) (n cap : Nat) (T : List Int) (q : Int) (r : Bool) (hn : (n : Int) ≤ 1048576) (h : Row w a n T) (hr : decide (q ∈ T) = r) (m : Nat) :
    Calls Tryz.prog 47 #[.slice a n cap, .int .i64 q] (w.drewN m) fun e w' => e = .returned (.bool r) ∧ w' = w.drewN m :=
  (has_any (w.drewN m) a n cap T q r hn (h.drewN m) hr).mono fun _ _ ⟨h1, h2⟩ => ⟨h1, h2.symm⟩
set_option maxHeartbeats 8000000 in
set_option maxRecDepth 100000 in
theorem walk (a0 : Option Addr) (len0 cap0 : Nat) (z0 : List Int) (w : World) (w0 : IsRow .u8 w a0 len0 cap0 z0) (hL : laidMet Tryz.prog Rows.fnRollbackRow.laid w) :
    Calls Tryz.prog 9 #[.slice a0 len0 cap0] w fun e w' => e = .returned (.bool true) ∧ Below w.heap.size w w' := by
  have HB : Hid (∀ i : Nat, i < len0 → ∃ (b off : Nat) (v : Int), a0 = some ⟨b, off, none⟩ ∧ w.cell? ⟨b, off + i, none⟩ = some (.int .u8 v)) := by
    intro i hi
    rcases w0 with ⟨_, h0, _⟩ | ⟨x, rfl, hl, _, hz, hcell, _⟩
    · omega
    · obtain ⟨b, off, rfl, hc⟩ := ints_at hcell (by omega)
      exact ⟨b, off, _, rfl, hc i (by omega)⟩
  have HB2 : Hid (∀ w1 : World, Below w.heap.size w w1 → ∀ i : Nat, i < len0 → ∃ (b off : Nat) (v : Int), a0 = some ⟨b, off, none⟩ ∧ w1.cell? ⟨b, off + i, none⟩ = some (.int .u8 v)) := by
    intro w1 hb1 i hi
    obtain ⟨b, off, v, ha, hv⟩ := HB.out i hi
    exact ⟨b, off, v, ha, (hb1.cell (World.block_lt_of_cell? w _ hv)).trans hv⟩
  have HTB := Lib.hid (Go.Proofs.YtmgeecdgebemdaaGreatDoor.cst.costs_of (r := []) hL)
  clear w0 hL
  by_cases hbig : (1048576 : Int) < len0
  · go_enter Tryz.func9, Tryz.ntmps9
    go_wp2_with (go_at_call 10; refine (big_yes _ _ _ _ hbig).mono ?_; rintro e w1 ⟨rfl, rfl⟩)
    go_ret
    exact ⟨rfl, Below.refl _ _⟩
  · have hsm : (len0 : Int) ≤ 1048576 := by omega
    clear hbig
    go_enter Tryz.func9, Tryz.ntmps9
    go_wp2_with (first
      | (go_at_call 10; refine (big_no _ _ _ _ hsm).mono ?_; rintro e w1 ⟨rfl, rfl⟩)
      | (go_at_call 11; (with_reducible refine (drawmemory_any _ _ _ _ hsm HB.out).mono ?_); rintro e w1 ⟨ad, n, c, P, g, cm, Mem, rfl, hn1, hn3, hnc, hcm, HOK, HR, HMI, ho, hb1⟩; refine Hid.out ?_))
    have HA := Lib.hid (And.intro (Box.new w1 #[.slice none 0 0] 26) (below_new w1 (.cells #[.slice none 0 0] 26)))
    have H1 := Lib.hid (And.intro HR.out.row (And.intro (Row.of_own ho) hb1))
    clear ho hb1 HR
    refine Lib.hid ?_
    go_wp2_with ((refine wpList_store_box rfl 26 _ _ rfl w1.heap.size _ _ HA.out.1 #[.slice ad n c] rfl rfl rfl (by kernel_rfl) (by simp [Value.oneCell']) ?_); intro w2 hx2 hg2; refine Hid.out ?_)
    have hb2 : Below w1.heap.size w1 w2 := HA.out.2.grown hg2 HA.out.2.size (fun k hk => by cases hk; exact Nat.le_refl _)
    have H2 := Lib.hid (And.intro hx2 (And.intro (H1.out.1.below hb2) (And.intro (H1.out.2.1.below hb2) (below_then H1.out.2.2 hb2))))
    clear hx2 hg2 hb2
    refine Lib.hid ?_
    go_wp2_with (go_at_call 12; (refine (readings_any _ _ _ _ hsm (HB2.out _ H2.out.2.2.2)).mono ?_); rintro e w3 ⟨v1, R, rfl, hR1, hR9, HRG, hown1, hb3⟩; refine Hid.out ?_)
    obtain ⟨gr, cr, rfl, _, _, _⟩ := own_atI hown1 (k := 0) (by omega)
    have hcr := mcapT hown1
    have H3 := Lib.hid (And.intro (H2.out.1.below hb3) (And.intro (H2.out.2.1.below hb3) (And.intro (H2.out.2.2.1.below hb3) (And.intro (Row.of_own hown1) (below_then H2.out.2.2.2 hb3)))))
    obtain ⟨N, hN⟩ : ∃ N, R.length = N := ⟨_, rfl⟩
    rw [hN] at hR1 hR9 H3 hcr ⊢
    clear hown1 hb3 hN
    refine Lib.hid ?_
    have H4 := Lib.hid (And.intro (H3.out.1) (And.intro (H3.out.2.1) (And.intro (H3.out.2.2.1) (And.intro (H3.out.2.2.2.1) (H3.out.2.2.2.2)))))
    -- the trace
    have hPl : P.length = n := H4.out.2.1.1
    have hTk : TrOk P Mem R 0 := ⟨HMI.out.1, HMI.out.2, ⟨by decide, by decide⟩, rdg_vals HRG.out⟩
    obtain ⟨r, M, U, hTI⟩ := traceIs_ex P Mem R 0
    obtain rfl : r = true := by
      rcases hTI with ⟨_, _, _, h⟩ | ⟨h, _⟩
      · exact absurd hTk h
      · exact h
    obtain ⟨hco, hne⟩ := hTI.cost
    obtain ⟨hMl, hUl⟩ := hTI.size
    have HTC := Lib.hid (impl_traceof ad n c P (sizes_of hPl hn3 HOK.out) hnc w3 H4.out.2.1 (some ⟨g, 0, none⟩) 49 cm Mem (by decide) hcm H4.out.2.2.1 (some ⟨gr, 0, none⟩) N cr R (by omega) hcr H4.out.2.2.2.1 0 true M U hTI (by have := Go.Proofs.YtmgeecdgebemdaaGreatDoor.ctl.pack_parts HMI.out.1.2.2.1; exact ⟨by omega, by omega⟩) (HTB.out.below H4.out.2.2.2.2))
    have HX4 := Lib.hid H4.out.1
    have HTI := Lib.hid hTI
    have HCO := Lib.hid (And.intro hco hne)
    clear hTk hTI hco hne
    refine Lib.hid ?_
    go_wp2_with (first
      | (refine wpList_load_row rfl 26 _ rfl w1.heap.size rfl _ _ _ _ HX4.out Tryz.underlying26 rfl (by kernel_rfl) ?_)
      | (go_at_call 29; (with_reducible refine HTC.out.mono ?_); rintro e w5 ⟨a1, n1, c1, a2, n2, c2, rfl, hm, hb5⟩; refine Hid.out ?_))
    have HA5 := Lib.hid (And.intro (Box.new w5 zero2T 54) (below_new w5 (.cells zero2T 54)))
    have hc1 := mcapT hm.1
    have hM1 := mrowT hm.1
    have hU1 := Row.of_own hm.2.1
    have hn1e : M.length = n1 := hM1.1
    have hn2e : U.length = n2 := hU1.1
    have H5 := Lib.hid (And.intro (show TrRow w5 a1 n1 a2 n2 M U from ⟨hM1, hU1, by omega, by omega⟩) (And.intro (below_then H4.out.2.2.2.2 hb5) (And.intro (H4.out.2.1.below hb5) (And.intro (H4.out.2.2.1.below hb5) (HX4.out.below hb5)))))
    clear hm hb5 hM1 hU1
    refine Lib.hid ?_
    go_wp2_with ((refine wpList_store_box rfl 54 _ _ rfl w5.heap.size _ _ HA5.out.1 #[.slice a1 n1 c1, .slice a2 n2 c2] rfl rfl rfl (by kernel_rfl) (by simp [Value.oneCell']) ?_); intro w6 hx6 hg6; refine Hid.out ?_)
    have hb6 : Below w5.heap.size w5 w6 := HA5.out.2.grown hg6 HA5.out.2.size (fun k hk => by cases hk; exact Nat.le_refl _)
    obtain ⟨gt, hgt⟩ : ∃ g, w5.heap.size = g := ⟨_, rfl⟩
    have H6 := Lib.hid (And.intro hx6 (And.intro (H5.out.1.below hb6) (And.intro (below_then H5.out.2.1 hb6) (And.intro (H5.out.2.2.1.below hb6) (And.intro (H5.out.2.2.2.1.below hb6) (H5.out.2.2.2.2.below hb6))))))
    rw [hgt] at H6 ⊢
    clear hx6 hg6 hb6 hgt
    have hlM : Mem.length = 49 := HMI.out.1.2.1
    obtain ⟨tl, htl⟩ : ∃ tl : Nat, wN (Mem.getD 8 0) = tl := ⟨(wN (Mem.getD 8 0)).toNat, by have := mem_ctl HMI.out.1; omega⟩
    have hWp : 0 < (wrs M).length := by obtain ⟨_, _, _, h9, _⟩ := Go.Proofs.YtmgeecdgebemdaaGreatDoor.rcv.trace_und HTI.out htl; exact h9
    have hWM : (wrs M).length ≤ 15002 := by have := wrs_lenI M; omega
    have h8M : -9223372036854775808 ≤ Mem.getD 8 0 ∧ Mem.getD 8 0 ≤ 9223372036854775807 := by have := pack_parts HMI.out.1.2.2.1; omega
    have HWO := Lib.hid (impl_writesof w6 a1 n1 c1 a2 n2 c2 M U hc1 H6.out.2.1 (fun m hm => by have := HCO.out.1 m hm; exact ⟨by omega, by omega⟩) _ rfl)
    clear htl
    refine Lib.hid ?_
    go_wp2_with (first
      | (refine wpList_load_row rfl 54 _ rfl gt rfl _ _ _ _ H6.out.1 Tryz.underlying54 rfl (by kernel_rfl) ?_)
      | (go_at_call 33; (with_reducible refine HWO.out.mono ?_); rintro e w8 ⟨q, nq, cq, rfl, hq, hb8⟩; refine Hid.out ?_))
    have hql : (wrs M).length = nq := by have h9 := hq.1; rw [writesC_len] at h9; omega
    have hqr : WriteRow w8 q nq (wrs M) := wrow_own9 hq hql
    have hqs : ∀ x, q = some x → x.spot = none := by
      intro x hx; subst hx
      rcases hq.2 with ⟨e9, _⟩ | ⟨g9, c9, cur9, e9, _⟩
      · cases e9
      · cases e9; rfl
    have hqc : nq ≤ cq := mcapT hq
    have hqn : (nq : Int) ≤ 15002 := by omega
    have H8 := Lib.hid (And.intro hqr (And.intro (below_then H6.out.2.2.1 hb8) (And.intro (H6.out.2.2.2.1.below hb8) (And.intro (H6.out.2.2.2.2.1.below hb8) (H6.out.2.2.2.2.2.below hb8)))))
    clear hq hqr hb8 HWO
    refine Lib.hid ?_
    go_wp2_with (go_at_call 13; (refine (places_any _ _ _ _ hsm (HB2.out _ H8.out.2.1)).mono ?_); rintro e w9 ⟨v2, Z, rfl, hl, HZ, hown2, hb9⟩; refine Hid.out ?_)
    obtain ⟨gz, cz, rfl, _, hlgz, z, hz, hcz⟩ := own_atI hown2 (k := 0) (by omega)
    have hz' := HZ.out z (List.mem_of_getElem? hz)
    have hnq : ¬ (nq : Int) = 0 := by omega
    obtain ⟨k, htm, hkn⟩ : ∃ k : Nat, z.tmod (nq : Int) = k ∧ k < nq := by
      rw [Int.tmod_eq_emod_of_nonneg hz'.1]
      have h1 := Int.emod_nonneg z hnq
      have h2 := Int.emod_lt_of_pos z (show (0 : Int) < nq by omega)
      exact ⟨(z % (nq : Int)).toNat, by omega, by omega⟩
    have H9 := Lib.hid (And.intro (H8.out.1.below hb9) (And.intro (below_then H8.out.2.1 hb9) (And.intro (H8.out.2.2.1.below hb9) (And.intro (H8.out.2.2.2.1.below hb9) (H8.out.2.2.2.2.below hb9)))))
    clear hown2 hb9 hz hl
    -- all that the law asks
    obtain ⟨Y, hY⟩ : ∃ Y, putAll Mem ((wrs M).take k) = Y := ⟨_, rfl⟩
    obtain ⟨Q, hQ⟩ := Go.Proofs.YtmgeecdgebemdaaGreatDoor.rcv.recIs_ex Y
    obtain ⟨F, hF⟩ := Go.Proofs.YtmgeecdgebemdaaGreatDoor.rcv.dirtyIs_ex P Mem
    have hRB := Go.Proofs.YtmgeecdgebemdaaGreatDoor.rcv.rollback HTI.out (n := k) (by omega) (Q := Q) (by rw [hY]; exact hQ) hF
    rw [hY] at hRB
    obtain ⟨X, hX⟩ : ∃ X, putAll Y Q = X := ⟨_, rfl⟩
    rw [hX] at hRB
    obtain ⟨r1, r2, r3, r4, r5, r6⟩ := hRB
    have hYl : Y.length = 49 := r6.2.1
    have hFl : F.length ≤ 8 := hF.size
    have h8Y : -9223372036854775808 ≤ Y.getD 8 0 ∧ Y.getD 8 0 ≤ 9223372036854775807 := by have := pack_parts r6.2.2.1; omega
    obtain ⟨x8, hx8⟩ : ∃ x, Mem[8]? = some x := ⟨Mem[8]'(by omega), by simp [hlM]⟩
    have hX8 : X[8]? = some x8 := by rw [r4]; exact hx8
    have hM8 : Mem.getD 8 0 = x8 := by rw [List.getD_eq_getElem?_getD, hx8]; rfl
    have h8X : -9223372036854775808 ≤ X.getD 8 0 ∧ X.getD 8 0 ≤ 9223372036854775807 := by rw [List.getD_eq_getElem?_getD, hX8]; show _ ≤ x8 ∧ x8 ≤ _; rw [← hM8]; exact h8M
    have HAP := Lib.hid (show Calls Tryz.prog 34 #[.slice (some ⟨g, 0, none⟩) 49 cm, .slice q nq cq, .int .i64 k] w9 (NewAt w9 49 Y) from by
      have h9 := impl_apply w9 (some ⟨g, 0, none⟩) 49 cm Mem q nq cq (wrs M) (k : Int) (by decide) (by omega) hqc hqs H9.out.2.2.2.1 H9.out.1
      rw [show appW Mem (wrs M) (k : Int) = Y by unfold appW; rw [show ((k : Int)).toNat = k by omega, hY]] at h9
      exact h9)
    have HRC := Lib.hid (show ∀ w' gy, Box gy (ivs Y).toArray 3 w' → Calls Tryz.prog 45 #[.slice (some ⟨gy, 0, none⟩) 49 49] w' (NewInts w' X) from fun w' gy hb => by
      have h9 := Go.Proofs.YtmgeecdgebemdaaGreatDoor.rcv.impl_recovered w' (some ⟨gy, 0, none⟩) 49 49 Y (by decide) (by decide) (box_row9 hb hYl) h8Y Q hQ
      rw [hX] at h9
      exact h9)
    have HDV := Lib.hid (show ∀ w', TkRow w' ad n P → Row w' (some ⟨g, 0, none⟩) 49 Mem → Calls Tryz.prog 46 #[.agg #[.slice ad n c], .slice (some ⟨g, 0, none⟩) 49 cm] w' (NewInts w' F) from fun w' h1 h2 =>
      Go.Proofs.YtmgeecdgebemdaaGreatDoor.rcv.impl_dirtyvars ad n c P (sizes_of hPl hn3 HOK.out) hnc w' h1 (some ⟨g, 0, none⟩) 49 cm Mem (by decide) hcm h2 h8M F hF)
    have HIC := Lib.hid (show ∀ w' gx cx, Row w' (some ⟨gx, 0, none⟩) 49 X → 49 ≤ cx → Calls Tryz.prog 48 #[.slice (some ⟨gx, 0, none⟩) 49 cx] w' (BelB w' true) from fun w' gx cx h1 h2 => Go.Proofs.YtmgeecdgebemdaaGreatDoor.rcv.impl_isclean w' (some ⟨gx, 0, none⟩) 49 cx X (by decide) h2 h1 h8X true r3)
    have HSZ := Lib.hid (show ∀ w' gx cx, Row w' (some ⟨gx, 0, none⟩) 49 X → Calls Tryz.prog 35 #[.slice (some ⟨gx, 0, none⟩) 49 cx] w' (NewInts w' (sentV Mem)) from fun w' gx cx h1 => by
      have h9 := impl_memsent_yes8 w' gx 0 cx X h1 h8X
      rw [r5] at h9
      exact h9)
    have HSM := Lib.hid (show ∀ w', Row w' (some ⟨g, 0, none⟩) 49 Mem → Calls Tryz.prog 35 #[.slice (some ⟨g, 0, none⟩) 49 cm] w' (NewInts w' (sentV Mem)) from fun w' h1 => impl_memsent_yes8 w' g 0 cm Mem h1 h8M)
    have HMO := Lib.hid (show ∀ w' gy, TkRow w' ad n P → Box gy (ivs Y).toArray 3 w' → Calls Tryz.prog 49 #[.agg #[.slice ad n c], .slice (some ⟨gy, 0, none⟩) 49 49] w' (BelB w' true) from fun w' gy h1 h2 =>
      impl_memok8 ad n c P (sizes_of hPl hn3 HOK.out) hnc w' h1 (some ⟨gy, 0, none⟩) 49 49 Y (box_row9 h2 hYl) h8Y true ⟨fun _ => r6, fun _ => rfl⟩)
    have HR2 := Lib.hid r2
    have HX8 := Lib.hid (And.intro hX8 (And.intro hx8 r1))
    have HSL := Lib.hid (sentV_len Mem)
    clear hY hQ hF hX r1 r2 r3 r4 r5 r6 hYl h8Y hx8 hX8 hM8 h8X h8M hlM hqs hqc hn1e hn2e hc1 hWM hWp
    refine Lib.hid ?_
    go_wp2_with (go_at_call 34; (with_reducible refine HAP.out.mono ?_); rintro e w10 ⟨gy, rfl, hgy, hyb, hb10⟩; refine Hid.out ?_)
    have H10 := Lib.hid (And.intro hyb (And.intro (below_then H9.out.2.1 hb10) (And.intro (H9.out.2.2.1.below hb10) (And.intro (H9.out.2.2.2.1.below hb10) (H9.out.2.2.2.2.below hb10)))))
    clear hgy hyb hb10 HAP hcz htm hnq
    refine Lib.hid ?_
    go_wp2_with (go_at_call 45; (with_reducible refine (HRC.out _ _ H10.out.1).mono ?_); rintro e w11 ⟨ax, nx, cx, rfl, hox, hb11⟩; refine Hid.out ?_)
    obtain rfl : nx = 49 := by have h9 := own_len hox; rw [HX8.out.2.2] at h9; exact h9.symm
    have hcx := mcapT hox
    have hxr := Row.of_own hox
    obtain ⟨gx, cx9, e9, _, hlgx⟩ := hox.form (by omega)
    cases e9
    have H11 := Lib.hid (And.intro (H10.out.1.below hb11) (And.intro (below_then H10.out.2.1 hb11) (And.intro (H10.out.2.2.1.below hb11) (And.intro (H10.out.2.2.2.1.below hb11) (And.intro (H10.out.2.2.2.2.below hb11) hxr)))))
    clear hox hxr hb11 HRC
    refine Lib.hid ?_
    go_wp2_with (first
      | (refine wpList_load_row rfl 26 _ rfl w1.heap.size rfl _ _ _ _ H11.out.2.2.2.2.1 Tryz.underlying26 rfl (by kernel_rfl) ?_)
      | (go_at_call 46; (with_reducible refine (HDV.out _ H11.out.2.2.1 H11.out.2.2.2.1).mono ?_); rintro e w12 ⟨af, nf, cf, rfl, hof, hb12⟩; refine Hid.out ?_))
    have hnf : (nf : Int) ≤ 8 := by have h9 := own_len hof; omega
    have H12 := Lib.hid (And.intro (H11.out.1.below hb12) (And.intro (below_then H11.out.2.1 hb12) (And.intro (H11.out.2.2.1.below hb12) (And.intro (H11.out.2.2.2.1.below hb12) (And.intro (H11.out.2.2.2.2.1.below hb12) (And.intro (H11.out.2.2.2.2.2.below hb12) (Row.of_own hof)))))))
    clear hof hb12 HDV hlgx
    refine Lib.hid ?_
    go_wp2
    go_loopw [14] (fun i wr => ∃ k : Nat, k ≤ 8 ∧ i = .int .i64 k ∧ Below w12.heap.size w12 wr) (fun i _ => 8 - (intOf i).toNat)
    case atStart => exact ⟨0, Nat.zero_le _, rfl, Below.refl _ _⟩
    case round =>
      obtain ⟨k, hk, rfl, hbel⟩ := hrel
      have HBE := Lib.hid hbel
      by_cases hlt : k < 8
      · have hI : (k : Int) < 8 := by omega
        have HT := Lib.hid (H12.out.2.2.2.2.2.2.below hbel)
        obtain ⟨gA, oA, XA, eA, _, hXA, cA⟩ := (H12.out.2.2.2.2.2.1.below hbel).2 k (by omega)
        obtain ⟨gB, oB, XB, eB, _, hYB, cB⟩ := (H12.out.2.2.2.1.below hbel).2 k (by omega)
        cases eA; cases eB
        rw [Nat.zero_add] at cA cB
        have hk49 : (k : Int) < 49 := by omega
        clear hbel
        by_cases hin : (k : Int) ∈ F
        · have HD := Lib.hid (show decide ((k : Int) ∈ F) = true by simpa using hin)
          clear hin hXA hYB
          have HQ := Lib.hid (has_q9 wr af nf cf _ _ true (by omega) HT.out HD.out)
          go_wp2
          go_quiet ((first | (go_at_call 47; with_reducible exact Calls.quiet_of_same (HQ.out _))))
          go_wp2
          go_roundw
          case rel => exact ⟨k + 1, by omega, by go_num, by first | exact HBE.out | exact below_drewN HBE.out _⟩
          case measure => simp [intOf]; omega
        · have HD := Lib.hid (show decide ((k : Int) ∈ F) = false by simpa using hin)
          have hXY : XA = XB := by
            have h9 := HR2.out k hlt hin
            rw [hXA, hYB] at h9; exact Option.some.inj h9
          subst hXY
          clear hin hXA hYB
          have HQ := Lib.hid (has_q9 wr af nf cf _ _ false (by omega) HT.out HD.out)
          go_wp2
          go_quiet ((first | (go_at_call 47; with_reducible exact Calls.quiet_of_same (HQ.out _))))
          go_wp2
          go_roundw
          case rel => exact ⟨k + 1, by omega, by go_num, by first | exact HBE.out | exact below_drewN HBE.out _⟩
          case measure => simp [intOf]; omega
      · have hI : ¬ (k : Int) < 8 := by omega
        have HZ2 := Lib.hid (And.intro (H12.out.1.below hbel) (And.intro (below_then H12.out.2.1 hbel) (And.intro (H12.out.2.2.1.below hbel) (And.intro (H12.out.2.2.2.1.below hbel) (And.intro (H12.out.2.2.2.2.1.below hbel) (H12.out.2.2.2.2.2.1.below hbel))))))
        have p0 : wr.cell? ⟨gx, 8, none⟩ = some (.int .i64 x8) := by
          obtain ⟨b9, o9, x9, e9, _, h9, c9⟩ := HZ2.out.2.2.2.2.2.2 8 (by omega)
          cases e9
          rw [HX8.out.1] at h9
          cases h9
          rw [Nat.zero_add] at c9
          exact c9
        have p1 : wr.cell? ⟨g, 8, none⟩ = some (.int .i64 x8) := by
          obtain ⟨b9, o9, x9, e9, _, h9, c9⟩ := HZ2.out.2.2.2.1.2 8 (by omega)
          cases e9
          rw [HX8.out.2.1] at h9
          cases h9
          rw [Nat.zero_add] at c9
          exact c9
        have HD := Lib.hid (show Below wr.heap.size wr wr.drew from Below.drew (Below.refl _ wr))
        have KEEP := Lib.hid (show ∀ w', Below wr.heap.size wr w' → w'.cell? ⟨gx, 8, none⟩ = some (.int .i64 x8) ∧ w'.cell? ⟨g, 8, none⟩ = some (.int .i64 x8) ∧ w'.cell? ⟨w1.heap.size, 0, none⟩ = some (.slice ad n c) from fun w' hb => ⟨(hb.cell (p := ⟨gx, 8, none⟩) (World.block_lt_of_cell? wr _ p0)).trans p0, (hb.cell (p := ⟨g, 8, none⟩) (World.block_lt_of_cell? wr _ p1)).trans p1, (HZ2.out.2.2.2.2.1.below hb).cell 0⟩)
        have hkk : (x8 == x8) = true := by simp
        clear hbel HBE p0 p1
        go_wp2
        refine wp_region_held_drew (S := (fun w' => w'.cell? ⟨gx, 8, none⟩ = some (.int .i64 x8) ∧ w'.cell? ⟨g, 8, none⟩ = some (.int .i64 x8) ∧ w'.cell? ⟨w1.heap.size, 0, none⟩ = some (.slice ad n c))) (by kernel_rfl) (KEEP.out _ HD.out) (fun hHeld => ?_)
        obtain ⟨y0, hy0⟩ : ∃ z, wr.drew = z := ⟨_, rfl⟩
        have hb0 : Below wr.heap.size wr y0 := by rw [← hy0]; exact HD.out
        rw [hy0] at hHeld ⊢
        clear hy0
        refine wpAnyH_take (i := 0) (v := .slice (some ⟨gx, 0, none⟩) 49 cx) rfl (by kernel_rfl) (by kernel_rfl) (by kernel_rfl) (fun _ _ _ h => h) (Or.inl ⟨by rfl, (by intro w' hSw; (try dsimp only at hSw); go_simp)⟩) (by assumption) ?_
        try simp only [Act.put, List.getElem_toArray, List.getElem_cons_zero, List.setIfInBounds_toArray, List.set_cons_zero, List.set_cons_succ]
        refine wpAnyH_ready (rs := [1]) (by kernel_rfl) (by simp) ?_
        refine AllReadyH.cons rfl (fun K hK => ?_) AllReadyH.nil
        rw [if_pos (by kernel_rfl)]
        go_simp
        go_at_call 48
        refine (HIC.out y0 gx cx (HZ2.out.2.2.2.2.2.below hb0) hcx).mono ?_
        rintro e y1 ⟨rfl, hbc⟩
        have hb1 : Below wr.heap.size wr y1 := below_then hb0 hbc
        refine hK.out _ _ (KEEP.out _ hb1) (fun hHeld1 => ?_)
        clear hK K hHeld hbc hb0 y0
        have hHeld := hHeld1
        clear hHeld1
        try simp only [Act.put, List.getElem_toArray, List.getElem_cons_zero, List.getElem_cons_succ, List.setIfInBounds_toArray, List.set_cons_zero, List.set_cons_succ]
        refine wpAnyH_take (i := 2) (v := .bool true) rfl (by kernel_rfl) (by kernel_rfl) (by kernel_rfl) (fun _ _ _ h => h) (Or.inl ⟨by rfl, (by intro w' hSw; (try dsimp only at hSw); go_simp)⟩) (by assumption) ?_
        try simp only [Act.put, List.getElem_toArray, List.getElem_cons_zero, List.getElem_cons_succ, List.setIfInBounds_toArray, List.set_cons_zero, List.set_cons_succ]
        refine wpAnyH_take (i := 3) (v := .slice (some ⟨gx, 0, none⟩) 49 cx) rfl (by kernel_rfl) (by kernel_rfl) (by kernel_rfl) (fun _ _ _ h => h) (Or.inl ⟨by rfl, (by intro w' hSw; (try dsimp only at hSw); go_simp)⟩) (by assumption) ?_
        try simp only [Act.put, List.getElem_toArray, List.getElem_cons_zero, List.getElem_cons_succ, List.setIfInBounds_toArray, List.set_cons_zero, List.set_cons_succ]
        refine wpAnyH_take (i := 4) (v := .pointer (some ⟨gx, 8, none⟩)) rfl (by kernel_rfl) (by kernel_rfl) (by kernel_rfl) (fun _ _ _ h => h) (Or.inl ⟨by rfl, (by intro w' hSw; (try dsimp only at hSw); go_simp)⟩) (by assumption) ?_
        try simp only [Act.put, List.getElem_toArray, List.getElem_cons_zero, List.getElem_cons_succ, List.setIfInBounds_toArray, List.set_cons_zero, List.set_cons_succ]
        refine wpAnyH_take (i := 5) (v := .int .i64 x8) rfl (by kernel_rfl) (by kernel_rfl) (by kernel_rfl) (fun _ _ _ h => h) (Or.inl ⟨by rfl, (by intro w' hSw; (try dsimp only at hSw); go_simp)⟩) (by assumption) ?_
        try simp only [Act.put, List.getElem_toArray, List.getElem_cons_zero, List.getElem_cons_succ, List.setIfInBounds_toArray, List.set_cons_zero, List.set_cons_succ]
        refine wpAnyH_take (i := 6) (v := .slice (some ⟨g, 0, none⟩) 49 cm) rfl (by kernel_rfl) (by kernel_rfl) (by kernel_rfl) (fun _ _ _ h => h) (Or.inl ⟨by rfl, (by intro w' hSw; (try dsimp only at hSw); go_simp)⟩) (by assumption) ?_
        try simp only [Act.put, List.getElem_toArray, List.getElem_cons_zero, List.getElem_cons_succ, List.setIfInBounds_toArray, List.set_cons_zero, List.set_cons_succ]
        refine wpAnyH_take (i := 7) (v := .pointer (some ⟨g, 8, none⟩)) rfl (by kernel_rfl) (by kernel_rfl) (by kernel_rfl) (fun _ _ _ h => h) (Or.inl ⟨by rfl, (by intro w' hSw; (try dsimp only at hSw); go_simp)⟩) (by assumption) ?_
        try simp only [Act.put, List.getElem_toArray, List.getElem_cons_zero, List.getElem_cons_succ, List.setIfInBounds_toArray, List.set_cons_zero, List.set_cons_succ]
        refine wpAnyH_take (i := 8) (v := .int .i64 x8) rfl (by kernel_rfl) (by kernel_rfl) (by kernel_rfl) (fun _ _ _ h => h) (Or.inl ⟨by rfl, (by intro w' hSw; (try dsimp only at hSw); go_simp)⟩) (by assumption) ?_
        try simp only [Act.put, List.getElem_toArray, List.getElem_cons_zero, List.getElem_cons_succ, List.setIfInBounds_toArray, List.set_cons_zero, List.set_cons_succ]
        refine wpAnyH_take (i := 9) (v := .bool true) rfl (by kernel_rfl) (by kernel_rfl) (by kernel_rfl) (fun _ _ _ h => h) (Or.inl ⟨by rfl, (by intro w' hSw; (try dsimp only at hSw); go_simp)⟩) (by assumption) ?_
        try simp only [Act.put, List.getElem_toArray, List.getElem_cons_zero, List.getElem_cons_succ, List.setIfInBounds_toArray, List.set_cons_zero, List.set_cons_succ]
        refine wpAnyH_take (i := 10) (v := .bool true) rfl (by kernel_rfl) (by kernel_rfl) (by kernel_rfl) (fun _ _ _ h => h) (Or.inl ⟨by rfl, (by intro w' hSw; (try dsimp only at hSw); go_simp)⟩) (by assumption) ?_
        try simp only [Act.put, List.getElem_toArray, List.getElem_cons_zero, List.getElem_cons_succ, List.setIfInBounds_toArray, List.set_cons_zero, List.set_cons_succ]
        refine wpAnyH_take (i := 11) (v := .bool true) rfl (by kernel_rfl) (by kernel_rfl) (by kernel_rfl) (fun _ _ _ h => h) (Or.inl ⟨by rfl, (by intro w' hSw; (try dsimp only at hSw); go_simp)⟩) (by assumption) ?_
        try simp only [Act.put, List.getElem_toArray, List.getElem_cons_zero, List.getElem_cons_succ, List.setIfInBounds_toArray, List.set_cons_zero, List.set_cons_succ]
        refine wpAnyH_take (i := 12) (v := .slice (some ⟨gx, 0, none⟩) 49 cx) rfl (by kernel_rfl) (by kernel_rfl) (by kernel_rfl) (fun _ _ _ h => h) (Or.inl ⟨by rfl, (by intro w' hSw; (try dsimp only at hSw); go_simp)⟩) (by assumption) ?_
        try simp only [Act.put, List.getElem_toArray, List.getElem_cons_zero, List.getElem_cons_succ, List.setIfInBounds_toArray, List.set_cons_zero, List.set_cons_succ]
        refine wpAnyH_take (i := 14) (v := .slice (some ⟨g, 0, none⟩) 49 cm) rfl (by kernel_rfl) (by kernel_rfl) (by kernel_rfl) (fun _ _ _ h => h) (Or.inl ⟨by rfl, (by intro w' hSw; (try dsimp only at hSw); go_simp)⟩) (by assumption) ?_
        try simp only [Act.put, List.getElem_toArray, List.getElem_cons_zero, List.getElem_cons_succ, List.setIfInBounds_toArray, List.set_cons_zero, List.set_cons_succ]
        refine wpAnyH_ready (rs := [13]) (by kernel_rfl) (by simp) ?_
        refine AllReadyH.cons rfl (fun K hK => ?_) AllReadyH.nil
        rw [if_pos (by kernel_rfl)]
        go_simp
        go_at_call 35
        refine (HSZ.out y1 gx cx (HZ2.out.2.2.2.2.2.below hb1)).mono ?_
        rintro e y2 ⟨aW, nW, cW, rfl, hoW, hbc⟩
        have hnW : (nW : Int) ≤ 24 := by have h9 := own_len hoW; have := HSL.out; omega
        have hb2 : Below wr.heap.size wr y2 := below_then hb1 hbc
        have hrW : Row y2 aW nW (sentV Mem) := Row.of_own hoW
        have hlW := own_len hoW
        refine hK.out _ _ (KEEP.out _ hb2) (fun hHeld1 => ?_)
        clear hK K hHeld hoW hbc hb1 y1
        have hHeld := hHeld1
        clear hHeld1
        try simp only [Act.put, List.getElem_toArray, List.getElem_cons_zero, List.getElem_cons_succ, List.setIfInBounds_toArray, List.set_cons_zero, List.set_cons_succ]
        refine wpAnyH_ready (rs := [15]) (by kernel_rfl) (by simp) ?_
        refine AllReadyH.cons rfl (fun K hK => ?_) AllReadyH.nil
        rw [if_pos (by kernel_rfl)]
        go_simp
        go_at_call 35
        refine (HSM.out y2 (HZ2.out.2.2.2.1.below hb2)).mono ?_
        rintro e y3 ⟨aV, nV, cV, rfl, hoV, hbc⟩
        obtain rfl : nV = nW := by have h9 := own_len hoV; omega
        have hb3 : Below wr.heap.size wr y3 := below_then hb2 hbc
        have hrV : Row y3 aV nV (sentV Mem) := Row.of_own hoV
        have hrW3 : Row y3 aW nV (sentV Mem) := hrW.below hbc
        refine hK.out _ _ (KEEP.out _ hb3) (fun hHeld1 => ?_)
        clear hK K hHeld hoV hbc hrW hb2 y2
        have hHeld := hHeld1
        clear hHeld1
        try simp only [Act.put, List.getElem_toArray, List.getElem_cons_zero, List.getElem_cons_succ, List.setIfInBounds_toArray, List.set_cons_zero, List.set_cons_succ]
        refine wpAnyH_ready (rs := [16]) (by kernel_rfl) (by simp) ?_
        refine AllReadyH.cons rfl (fun K hK => ?_) AllReadyH.nil
        rw [if_pos (by kernel_rfl)]
        go_simp
        go_at_call 37
        refine (same_any y3 aW aV nV cW cV (sentV Mem) (by omega) hrW3 hrV).mono ?_
        rintro e y4 ⟨rfl, hg9⟩
        have hb4 : Below wr.heap.size wr y4 := hb3.grown hg9 hb3.size (fun q hq => by cases hq)
        refine hK.out _ _ (KEEP.out _ hb4) (fun hHeld1 => ?_)
        clear hK K hHeld hg9 hrW3 hrV hb3 y3
        have hHeld := hHeld1
        clear hHeld1
        try simp only [Act.put, List.getElem_toArray, List.getElem_cons_zero, List.getElem_cons_succ, List.setIfInBounds_toArray, List.set_cons_zero, List.set_cons_succ]
        refine wpAnyH_take (i := 17) (v := .bool true) rfl (by kernel_rfl) (by kernel_rfl) (by kernel_rfl) (fun _ _ _ h => h) (Or.inl ⟨by rfl, (by intro w' hSw; (try dsimp only at hSw); go_simp)⟩) (by assumption) ?_
        try simp only [Act.put, List.getElem_toArray, List.getElem_cons_zero, List.getElem_cons_succ, List.setIfInBounds_toArray, List.set_cons_zero, List.set_cons_succ]
        refine wpAnyH_take (i := 18) (v := .bool true) rfl (by kernel_rfl) (by kernel_rfl) (by kernel_rfl) (fun _ _ _ h => h) (Or.inl ⟨by rfl, (by intro w' hSw; (try dsimp only at hSw); go_simp)⟩) (by assumption) ?_
        try simp only [Act.put, List.getElem_toArray, List.getElem_cons_zero, List.getElem_cons_succ, List.setIfInBounds_toArray, List.set_cons_zero, List.set_cons_succ]
        refine wpAnyH_take (i := 19) (v := .agg #[.slice ad n c]) rfl (by kernel_rfl) (by kernel_rfl) (by kernel_rfl) (fun _ _ _ h => h) (Or.inl ⟨by rfl, (by intro w' hSw; (try dsimp only at hSw); go_simp)⟩) (by assumption) ?_
        try simp only [Act.put, List.getElem_toArray, List.getElem_cons_zero, List.getElem_cons_succ, List.setIfInBounds_toArray, List.set_cons_zero, List.set_cons_succ]
        refine wpAnyH_take (i := 20) (v := .slice (some ⟨gy, 0, none⟩) 49 49) rfl (by kernel_rfl) (by kernel_rfl) (by kernel_rfl) (fun _ _ _ h => h) (Or.inl ⟨by rfl, (by intro w' hSw; (try dsimp only at hSw); go_simp)⟩) (by assumption) ?_
        try simp only [Act.put, List.getElem_toArray, List.getElem_cons_zero, List.getElem_cons_succ, List.setIfInBounds_toArray, List.set_cons_zero, List.set_cons_succ]
        refine wpAnyH_ready (rs := [21]) (by kernel_rfl) (by simp) ?_
        refine AllReadyH.cons rfl (fun K hK => ?_) AllReadyH.nil
        rw [if_pos (by kernel_rfl)]
        go_simp
        go_at_call 49
        refine (HMO.out y4 gy (HZ2.out.2.2.1.below hb4) (HZ2.out.1.below hb4)).mono ?_
        rintro e y5 ⟨rfl, hbc⟩
        have hb5 : Below wr.heap.size wr y5 := below_then hb4 hbc
        refine hK.out _ _ (KEEP.out _ hb5) (fun hHeld1 => ?_)
        clear hK K hHeld hbc hb4 y4
        have hHeld := hHeld1
        clear hHeld1
        try simp only [Act.put, List.getElem_toArray, List.getElem_cons_zero, List.getElem_cons_succ, List.setIfInBounds_toArray, List.set_cons_zero, List.set_cons_succ]
        refine wpAnyH_take (i := 22) (v := .bool true) rfl (by kernel_rfl) (by kernel_rfl) (by kernel_rfl) (fun _ _ _ h => h) (Or.inl ⟨by rfl, (by intro w' hSw; (try dsimp only at hSw); go_simp)⟩) (by assumption) ?_
        try simp only [Act.put, List.getElem_toArray, List.getElem_cons_zero, List.getElem_cons_succ, List.setIfInBounds_toArray, List.set_cons_zero, List.set_cons_succ]
        refine wpAnyH_take (i := 23) (v := .bool true) rfl (by kernel_rfl) (by kernel_rfl) (by kernel_rfl) (fun _ _ _ h => h) (Or.inl ⟨by rfl, (by intro w' hSw; (try dsimp only at hSw); go_simp)⟩) (by assumption) ?_
        try simp only [Act.put, List.getElem_toArray, List.getElem_cons_zero, List.getElem_cons_succ, List.setIfInBounds_toArray, List.set_cons_zero, List.set_cons_succ]
        refine wpAnyH_done (by kernel_rfl) ?_ _
        have HFN := Lib.hid (below_then HZ2.out.2.1 hb5)
        clear hb5 hHeld
        refine Lib.hid ?_
        go_wp2
        go_ret
        exact ⟨rfl, HFN.out⟩

/-! ### THE ROW's STEP: WRITTEN OUT: LEAVE IT -/
/-- The door's own heap meets the condition: three closed facts. -/
theorem door_met (os : Os) (args : Array Value) : laidMetH Tryz.prog Rows.fnRollbackRow.laid ((World.doorLaid Tryz.prog 400 os).forCall (fun _ _ => 0) ⟨#[], args, []⟩).memory :=
  laidMetH_of_parts3 (fuel := 8) (laidMet_of_run' 8 (by kernel_rfl) (by kernel_rfl)) (by kernel_rfl) (by kernel_rfl)

set_option maxRecDepth 100000 in
theorem lifted (os : Os) (started : os.Started) (H : Type) (enc : TypeId × Value → H) :
    ReturnsInHanded {} Tryz.checked os 9 .any (fun w args => (Rows.fnRollbackSpec.pre enc Tryz.prog Tryz.f9 [] false w args ∧ laidMetH Tryz.prog Rows.fnRollbackRow.laid w) ∧ sizedMet enc Tryz.prog Tryz.f9 (OpenSpec.ofChange Rows.fnRollbackSpec) false w args) (Rows.fnRollbackSpec.post enc Tryz.prog Tryz.f9 false true false false) := by
  refine returnsInHanded_of_change_and (C := Tryz.checked) (X := fun w _ => laidMetH Tryz.prog Rows.fnRollbackRow.laid w) (fun _ _ _ hh h => h.of_heap hh) own started (by kernel_rfl) Tryz.func9
    (ChangeSpec.witness_shaped (enc := enc) (C := Tryz.checked) (os := os) (X := fun w _ => laidMetH Tryz.prog Rows.fnRollbackRow.laid w) false (World.doorLaid Tryz.prog 400 os) #[.slice none 0 0] 8 rfl (World.shaped_of_RefB (by kernel_rfl) (by kernel_rfl)) (by kernel_rfl) (by kernel_rfl) (by kernel_rfl) (door_met os _)) ?_
  intro W base args ds gs before hval0 hW hcnd _ hL _
  have hLm : laidMet Tryz.prog Rows.fnRollbackRow.laid W := by rw [MakeChecks.laidMetH_plain _ _ _ (by kernel_rfl)] at hL; exact hL
  have hval : ∀ (j : Nat) t v, Tryz.f9.params[j]? = some t → args[j]? = some v → Value.okWide Tryz.prog W .any base t v := hval0
  have hW' := hW
  obtain ⟨p, q, hA0, hV, rfl, hfz, hnd⟩ := hW
  have hA : DataW.TrodAll enc Tryz.prog W 0 (fun _ => true) true Tryz.f9.params.toList args.toList ds p := hA0
  rw [Tryz.params9] at hA hval
  obtain ⟨v0, vs0, d0, ds0, p0, q0, hargs, rfl, rfl, h0, r0⟩ := trodAll_cons hA
  obtain ⟨rfl, rfl, rfl⟩ := trodAll_nil r0
  obtain rfl : args = #[v0] := by cases args; simp_all
  obtain ⟨g1, rfl⟩ : ∃ g1, gs = [g1] := by
    obtain ⟨_, _, _, _, d1, _, e1, _⟩ := trodVars_one hV
    exact ⟨d1, e1⟩
  obtain ⟨a0, len0, cap0, rfl⟩ := okWide_slice Tryz.underlying22 (hval 0 22 v0 rfl rfl)
  have k0 := h0
  have lt0 : ∀ x ∈ p0, x.block < W.heap.size := by obtain ⟨m, hm⟩ := k0; exact DataW.trod_lt m _ _ _ hm
  obtain ⟨z0, w0⟩ : ∃ zs, IsRow .u8 W a0 len0 cap0 zs := by
    obtain ⟨fuel, hf⟩ := h0
    rcases open_ints Tryz.underlying22 Tryz.underlying5 (by kernel_rfl) hf with ⟨hcs, _⟩ | ⟨x, l, c, zs, hcs, _, hl, hm, hz, _, hcell, hwz⟩
    · simp [Value.cells] at hcs
      obtain ⟨rfl, rfl, rfl⟩ := hcs
      exact ⟨[], .inl ⟨rfl, rfl, rfl, rfl⟩⟩
    · simp [Value.cells] at hcs
      obtain ⟨rfl, rfl, rfl⟩ := hcs
      exact ⟨zs, .inr ⟨_, rfl, hl, hm, by simpa using hz, hcell, hwz⟩⟩
  clear hA0 hval0
  refine (walk a0 len0 cap0 z0 W w0 hLm).mono fun e W' ⟨he, bel⟩ => ?_
  subst he
  exact ⟨_, rfl, _, _, _, [], _, q, hW', trodAll_mk1 (shut_bool Tryz.underlying4 _), (trodAll_cons_mk (Below.trod laidOut (by kernel_rfl) (of_decide_eq_true (by kernel_rfl)) k0 bel lt0) trodAll_mk0), bel.trodVars laidOut (by kernel_rfl) hV, bel.frame _, fun h => by cases h⟩

theorem over : Rows.fnRollbackRow.holds Tryz.pinned (OpenSpec.ofChange Rows.fnRollbackSpec) :=
  OpenClaim.holds_of_wide 9 Tryz.f9 rfl rfl rfl rfl rfl rfl rfl ⟨rfl, rfl, rfl, rfl, rfl⟩ rfl rfl rfl rfl rfl (by kernel_rfl) Tryz.func9 (by kernel_rfl)
    (of_decide_eq_true (by kernel_rfl)) (by unfold Func.isWrapper; first | (rw [if_pos (by decide +kernel)]; kernel_rfl) | (rw [if_neg (by decide +kernel)]; exact ⟨rfl, rfl⟩))
    (fun os started H enc _ => lifted os started H enc)

/-- ████ THE STATEMENT: THE TIED CARD ████ -/
theorem proved : Rows.FnRollbackCardSaid :=
  Claim7.holds_tied_plain_at .later [] [.data] true (true, "89678b23e05d9388c7d7b3961f95b3cb35559b567b202cd024a2e3cd47837206") true
    over (fun _ h => by cases h) (by kernel_rfl) (fun _ h => by cases h) fnRollback_row_tie rfl ⟨rfl, rfl⟩ (by kernel_rfl) rfl
    (fun f fn hf hfn => by
      obtain rfl : f = 9 := Option.some.inj ((show Tryz.prog.funcNamed "loop.example/g00983/laws.FnRollback" = some 9 by kernel_rfl).symm.trans hf) |>.symm
      obtain rfl : fn = Tryz.f9 := (Option.some.inj (Tryz.func9.symm.trans hfn)).symm
      exact ⟨by kernel_rfl, fun j t ht => by
        rw [Tryz.params9] at ht
        have hm : t ∈ [22] := by simpa using Array.mem_of_getElem? ht
        have hall : ([22].all fun u => !Tryz.prog.wantsStandIn u) = true := by kernel_rfl
        exact (show Tryz.prog.wantsStandIn t = false by simpa using List.all_eq_true.1 hall t hm)⟩)
    (by kernel_rfl)
#print axioms proved
end Go.Proofs.YtmgeecdgebemdaaGreatDoor.fnRollback
