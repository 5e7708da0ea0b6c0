/- For every input the law FnTraces returns true and leaves its argument as it was; no condition. -/
import Derived.Test.YtmgeecdgebemdaaGreatDoorRows
import Derived.WalkKit
import Derived.ProofKit
import Derived.OpenShut
import Derived.ShutString
import Derived.ChangeOld
import Derived.Below
import Derived.OpenVars
import Derived.ChangeVars
import Derived.Test.YtmgeecdgebemdaaGreatDoorCards
import Derived.Test.YtmgeecdgebemdaaGreatDoorTie
import Derived.LaidMore
import Derived.Stop.Joined
import Derived.SevenTiedAt
import Derived.MakeChecks
import Derived.Test.YtmgeecdgebemdaaGreatDoorGSig37
import Derived.Test.YtmgeecdgebemdaaGreatDoorGSig39
import Derived.Test.YtmgeecdgebemdaaGreatDoorGSig43
import Derived.Test.YtmgeecdgebemdaaGreatDoorGSig44
import Derived.Test.YtmgeecdgebemdaaGreatDoorGSig47
import Derived.Test.YtmgeecdgebemdaaGreatDoorGSig18
import Derived.Test.YtmgeecdgebemdaaGreatDoorGSig57
import Derived.Test.YtmgeecdgebemdaaGreatDoorGSig32
import Derived.Deep.RegionHeld3
import Derived.Deep.RegionLaw
namespace Go.Proofs.YtmgeecdgebemdaaGreatDoor.fnTraces
open Go.ChangeShapes Go.WideShapes Go.ChangeAt Go.RowKit
open Go.ChangeMaps (open_string shut_string)
set_option linter.unusedVariables false

theorem own : ownKnob Tryz.prog.godebug = none := by kernel_rfl
theorem laidOut : laidOutB Tryz.prog = true := by kernel_rfl

/-- WHAT THE WALK IS TOLD OF A SLICE OF INTEGERS THAT CAME IN: it is nil; or it leads to a row of 'cap' cells, the numbers 'zs' (the first 'len' are its elements, the rest its spare room), each fitting its kind. -/
def IsRow (k : IntKind) (w : World) (a : Option Addr) (len cap : Nat) (zs : List Int) : Prop :=
  (a = none ∧ len = 0 ∧ cap = 0 ∧ zs = []) ∨
  ∃ x, a = some x ∧ len ≤ cap ∧ cap ≤ maxLen ∧ zs.length = cap ∧ (∀ i, i < zs.length → w.cell? (x.add i) = some (.int k (zs.getD i 0))) ∧ ∀ n ∈ zs, (Lit.int k n).wf = true

open Go.WideMaps Go.WideElems
open Go.Proofs.YtmgeecdgebemdaaGreatDoor.row Go.Proofs.YtmgeecdgebemdaaGreatDoor.val Go.Proofs.YtmgeecdgebemdaaGreatDoor.expr Go.Proofs.YtmgeecdgebemdaaGreatDoor.cur Go.Proofs.YtmgeecdgebemdaaGreatDoor.stm Go.Proofs.YtmgeecdgebemdaaGreatDoor.blk Go.Proofs.YtmgeecdgebemdaaGreatDoor.prg Go.Proofs.YtmgeecdgebemdaaGreatDoor.exe Go.Proofs.YtmgeecdgebemdaaGreatDoor.grow Go.Proofs.YtmgeecdgebemdaaGreatDoor.ctl Go.Proofs.YtmgeecdgebemdaaGreatDoor.mem Go.Proofs.YtmgeecdgebemdaaGreatDoor.trc Go.Proofs.YtmgeecdgebemdaaGreatDoor.wrt
theorem rdg_vals {R : List Int} (h : RdgIn R) : allV R = true := (allV_iff _).2 (fun x hx => (isVal_iff _).2 (by have := h x hx; omega))
theorem sizes_of {P : List Tk} {n : Nat} (hl : P.length = n) (h3 : n ≤ 3) (h : ∀ t ∈ P, TkOk t) : Sizes P := ⟨by omega, fun t ht => by have := (h t ht).2.1; omega⟩
theorem mrowT {w : World} {B : Nat} {a : Option Addr} {n c : Nat} {M : List Mic} (h : w.ownsRow B 98 3 (.slice a n c) n (microsC M)) : MicroRow w a n M := by
  have hl : M.length = n := by have h1 := h.1; rw [microsC_len] at h1; omega
  refine ⟨hl, fun k hk => ?_⟩
  obtain ⟨g, c', e, _, hlt⟩ := h.form (by omega)
  cases e
  refine ⟨g, 0, M[k]'(by omega), rfl, hlt, by simp [show k < M.length by omega], fun j v hv => ?_⟩
  have hj : j < 3 := by have := (List.getElem?_eq_some_iff.1 hv).1; rw [microC_len] at this; exact this
  have h1 := h.cells (g := g) rfl (k * 3 + j) v (by rw [gcs_at microC_len (s := M[k]'(by omega)) (by simp [show k < M.length by omega]) j hj]; exact hv)
  rw [Addr.add_mid] at h1
  rw [show 0 + k * 3 + j = 0 + (k * 3 + j) by omega]
  exact h1
theorem mcapT {w : World} {B : Nat} {a : Option Addr} {n c s : Nat} {e : TypeId} {xs : List Value} (h : w.ownsRow B e s (.slice a n c) n xs) : n ≤ c := by
  rcases h.2 with ⟨e, e0⟩ | ⟨g', c', cur, e, _, _, h9, _⟩
  · cases e; omega
  · cases e; exact h9
theorem ne_own9 {v : Value} {a b g : Nat} (h : ∀ q, v.ownBlock = some q → a ≤ q ∧ q < b) (hg : g < a ∨ b ≤ g) : v.ownBlock = none ∨ v.ownBlock ≠ some g := by
  cases hq : v.ownBlock with
  | none => exact .inl rfl
  | some q => right; intro e; have := h q hq; have := Option.some.inj e; omega
theorem wrow_own9 {w : World} {B : Nat} {a : Option Addr} {n c : Nat} {L : List Wt} (h : w.ownsRow B 100 2 (.slice a n c) n (writesC L)) (hl : L.length = n) : WriteRow w a n L := by
  refine ⟨hl, fun k hk => ?_⟩
  obtain ⟨g, c', e, _, hlt⟩ := h.form (by omega)
  cases e
  refine ⟨g, 0, L[k]'(by omega), rfl, hlt, by simp [show k < L.length by omega], fun j v hv => ?_⟩
  have hj : j < 2 := by have := (List.getElem?_eq_some_iff.1 hv).1; rw [writeC_len] at this; exact this
  have h1 := h.cells (g := g) rfl (k * 2 + j) v (by rw [gcs_at writeC_len (s := L[k]'(by omega)) (by simp [show k < L.length by omega]) j hj]; exact hv)
  rw [Addr.add_mid] at h1
  rw [show 0 + k * 2 + j = 0 + (k * 2 + j) by omega]
  exact h1
theorem box_row9 {w : World} {g n : Nat} {X : List Int} (h : Box g (ivs X).toArray 3 w) (hl : X.length = n) : Row w (some ⟨g, 0, none⟩) n X := by
  refine ⟨hl, fun k hk => ⟨g, 0, X[k]'(by omega), rfl, h.lt, by simp [show k < X.length by omega], ?_⟩⟩
  rw [Nat.zero_add, h.cell]; simp [ivs, show k < X.length by omega]
set_option maxHeartbeats 8000000 in
set_option maxRecDepth 100000 in
theorem walk (a0 : Option Addr) (len0 cap0 : Nat) (z0 : List Int) (w : World) (w0 : IsRow .u8 w a0 len0 cap0 z0) (hL : laidMet Tryz.prog Rows.fnTracesRow.laid w) :
    Calls Tryz.prog 6 #[.slice a0 len0 cap0] w fun e w' => e = .returned (.bool true) ∧ Below w.heap.size w w' := by
  have HB : Hid (∀ i : Nat, i < len0 → ∃ (b off : Nat) (v : Int), a0 = some ⟨b, off, none⟩ ∧ w.cell? ⟨b, off + i, none⟩ = some (.int .u8 v)) := by
    intro i hi
    rcases w0 with ⟨_, h0, _⟩ | ⟨x, rfl, hl, _, hz, hcell, _⟩
    · omega
    · obtain ⟨b, off, rfl, hc⟩ := ints_at hcell (by omega)
      exact ⟨b, off, _, rfl, hc i (by omega)⟩
  have HB2 : Hid (∀ w1 : World, Below w.heap.size w w1 → ∀ i : Nat, i < len0 → ∃ (b off : Nat) (v : Int), a0 = some ⟨b, off, none⟩ ∧ w1.cell? ⟨b, off + i, none⟩ = some (.int .u8 v)) := by
    intro w1 hb1 i hi
    obtain ⟨b, off, v, ha, hv⟩ := HB.out i hi
    exact ⟨b, off, v, ha, (hb1.cell (World.block_lt_of_cell? w _ hv)).trans hv⟩
  have HTB := Lib.hid (Go.Proofs.YtmgeecdgebemdaaGreatDoor.cst.costs_of (r := []) hL)
  clear w0 hL
  by_cases hbig : (1048576 : Int) < len0
  · go_enter Tryz.func6, Tryz.ntmps6
    go_wp2_with (go_at_call 10; refine (big_yes _ _ _ _ hbig).mono ?_; rintro e w1 ⟨rfl, rfl⟩)
    go_ret
    exact ⟨rfl, Below.refl _ _⟩
  · have hsm : (len0 : Int) ≤ 1048576 := by omega
    clear hbig
    go_enter Tryz.func6, Tryz.ntmps6
    go_wp2_with (first
      | (go_at_call 10; refine (big_no _ _ _ _ hsm).mono ?_; rintro e w1 ⟨rfl, rfl⟩)
      | (go_at_call 11; (with_reducible refine (drawmemory_any _ _ _ _ hsm HB.out).mono ?_); rintro e w1 ⟨ad, n, c, P, g, cm, Mem, rfl, hn1, hn3, hnc, hcm, HOK, HR, HMI, ho, hb1⟩; refine Hid.out ?_))
    have HA := Lib.hid (And.intro (Box.new w1 #[.slice none 0 0] 26) (below_new w1 (.cells #[.slice none 0 0] 26)))
    have H1 := Lib.hid (And.intro HR.out.row (And.intro (Row.of_own ho) hb1))
    clear ho hb1 HR
    refine Lib.hid ?_
    go_wp2_with ((refine wpList_store_box rfl 26 _ _ rfl w1.heap.size _ _ HA.out.1 #[.slice ad n c] rfl rfl rfl (by kernel_rfl) (by simp [Value.oneCell']) ?_); intro w2 hx2 hg2; refine Hid.out ?_)
    have hb2 : Below w1.heap.size w1 w2 := HA.out.2.grown hg2 HA.out.2.size (fun k hk => by cases hk; exact Nat.le_refl _)
    have H2 := Lib.hid (And.intro hx2 (And.intro (H1.out.1.below hb2) (And.intro (H1.out.2.1.below hb2) (below_then H1.out.2.2 hb2))))
    clear hx2 hg2 hb2
    refine Lib.hid ?_
    go_wp2_with (go_at_call 12; (refine (readings_any _ _ _ _ hsm (HB2.out _ H2.out.2.2.2)).mono ?_); rintro e w3 ⟨v1, R, rfl, hR1, hR9, HRG, hown1, hb3⟩; refine Hid.out ?_)
    obtain ⟨gr, cr, rfl, _, _, _⟩ := own_atI hown1 (k := 0) (by omega)
    have hcr := mcapT hown1
    have H3 := Lib.hid (And.intro (H2.out.1.below hb3) (And.intro (H2.out.2.1.below hb3) (And.intro (H2.out.2.2.1.below hb3) (And.intro (Row.of_own hown1) (below_then H2.out.2.2.2 hb3)))))
    obtain ⟨N, hN⟩ : ∃ N, R.length = N := ⟨_, rfl⟩
    rw [hN] at hR1 hR9 H3 hcr ⊢
    clear hown1 hb3 hN
    refine Lib.hid ?_
    have H4 := Lib.hid (And.intro (H3.out.1) (And.intro (H3.out.2.1) (And.intro (H3.out.2.2.1) (And.intro (H3.out.2.2.2.1) (H3.out.2.2.2.2)))))
    -- the trace
    have hPl : P.length = n := H4.out.2.1.1
    have hTk : TrOk P Mem R 3 := ⟨HMI.out.1, HMI.out.2, ⟨by decide, by decide⟩, rdg_vals HRG.out⟩
    obtain ⟨r, M, U, hTI⟩ := traceIs_ex P Mem R 3
    obtain rfl : r = true := by
      rcases hTI with ⟨_, _, _, h⟩ | ⟨h, _⟩
      · exact absurd hTk h
      · exact h
    obtain ⟨hco, hne⟩ := hTI.cost
    obtain ⟨hMl, hUl⟩ := hTI.size
    have HTC := Lib.hid (impl_traceof ad n c P (sizes_of hPl hn3 HOK.out) hnc w3 H4.out.2.1 (some ⟨g, 0, none⟩) 49 cm Mem (by decide) hcm H4.out.2.2.1 (some ⟨gr, 0, none⟩) N cr R (by omega) hcr H4.out.2.2.2.1 3 true M U hTI (by have := Go.Proofs.YtmgeecdgebemdaaGreatDoor.ctl.pack_parts HMI.out.1.2.2.1; exact ⟨by omega, by omega⟩) (HTB.out.below H4.out.2.2.2.2))
    have HX4 := Lib.hid H4.out.1
    have HTI := Lib.hid hTI
    have HCO := Lib.hid (And.intro hco hne)
    clear hTk hTI hco hne
    refine Lib.hid ?_
    go_wp2_with (first
      | (refine wpList_load_row rfl 26 _ rfl w1.heap.size rfl _ _ _ _ HX4.out Tryz.underlying26 rfl (by kernel_rfl) ?_)
      | (go_at_call 29; (with_reducible refine HTC.out.mono ?_); rintro e w5 ⟨a1, n1, c1, a2, n2, c2, rfl, hm, hb5⟩; refine Hid.out ?_))
    have HA5 := Lib.hid (And.intro (Box.new w5 zero2T 54) (below_new w5 (.cells zero2T 54)))
    have hc1 := mcapT hm.1
    have hM1 := mrowT hm.1
    have hU1 := Row.of_own hm.2.1
    have hn1e : M.length = n1 := hM1.1
    have hn2e : U.length = n2 := hU1.1
    have H5 := Lib.hid (And.intro (show TrRow w5 a1 n1 a2 n2 M U from ⟨hM1, hU1, by omega, by omega⟩) (And.intro (below_then H4.out.2.2.2.2 hb5) (And.intro (H4.out.2.1.below hb5) (And.intro (H4.out.2.2.1.below hb5) (HX4.out.below hb5)))))
    clear hm hb5 hM1 hU1
    refine Lib.hid ?_
    go_wp2_with ((refine wpList_store_box rfl 54 _ _ rfl w5.heap.size _ _ HA5.out.1 #[.slice a1 n1 c1, .slice a2 n2 c2] rfl rfl rfl (by kernel_rfl) (by simp [Value.oneCell']) ?_); intro w6 hx6 hg6; refine Hid.out ?_)
    have hb6 : Below w5.heap.size w5 w6 := HA5.out.2.grown hg6 HA5.out.2.size (fun k hk => by cases hk; exact Nat.le_refl _)
    obtain ⟨gt, hgt⟩ : ∃ g, w5.heap.size = g := ⟨_, rfl⟩
    have H6 := Lib.hid (And.intro hx6 (And.intro (H5.out.1.below hb6) (And.intro (below_then H5.out.2.1 hb6) (And.intro (H5.out.2.2.1.below hb6) (And.intro (H5.out.2.2.2.1.below hb6) (H5.out.2.2.2.2.below hb6))))))
    rw [hgt] at H6 ⊢
    clear hx6 hg6 hb6 hgt
    have hlM : Mem.length = 49 := HMI.out.1.2.1
    obtain ⟨bq, off, x8, eq8, hlg, hx8, hc8⟩ := H6.out.2.2.2.2.1.2 8 (by omega)
    cases eq8
    rw [Nat.zero_add] at hc8
    have hX8 : Mem.getD 8 0 = x8 := by rw [List.getD_eq_getElem?_getD, hx8]; rfl
    obtain ⟨J, hJ⟩ : ∃ J, wT x8 = J := ⟨_, rfl⟩
    obtain ⟨TL, hTL⟩ : ∃ TL, wN x8 = TL := ⟨_, rfl⟩
    have hwok : wOk x8 = true := by rw [← hX8]; exact HMI.out.1.2.2.1
    have hun : unT x8 = J ∧ unC x8 = 0 ∧ unN x8 = TL := by
      have h9 := HMI.out.2
      rw [hX8] at h9
      unfold unT unC unN; rw [hwok]; exact ⟨hJ, h9, hTL⟩
    have HUN := Lib.hid (show ∀ w', Calls Tryz.prog 30 #[.int .i64 x8] w' (RetT w' J 0 TL) from fun w' => spec_unpack_is x8 _ _ _ hun w')
    obtain ⟨rE, E, hE⟩ := effIs_ex P (Mem.take 8) U (wT (Mem.getD 8 0))
    have hd := trace_does HTI.out hE
    obtain ⟨rfl, hEU, hXl, hXv, ⟨hXo, hXT, hXC, hXN⟩, hXS⟩ := hd
    rw [hX8] at hE hXN
    rw [hJ] at hE
    rw [hTL] at hXN
    have hEV8 : E.V.length = 8 := by rw [← hXv, List.length_take, hXl]; rfl
    have hES : E.S.length ≤ 3000 := by
      rcases hE with ⟨h9, _⟩ | ⟨_, t9, T9, h9, h10⟩
      · cases h9
      · rw [h10]; have := h9.small (listSrc U); unfold effOf; dsimp only; omega
    have hEUn : E.U = (n2 : Int) := by rw [hEU, hn2e]
    have hTLr : 0 ≤ TL ∧ TL ≤ 24 := by have := mem_ctl HMI.out.1; rw [hX8, hTL] at this; omega
    obtain ⟨X, hX⟩ : ∃ X, putAll Mem (wrs M) = X := ⟨_, rfl⟩
    rw [hX] at hXl hXv hXo hXT hXC hXN hXS
    have HTE := Lib.hid (show ∀ w' a0 c0, Below w6.heap.size w6 w' → Row w' a0 8 (Mem.take 8) → Calls Tryz.prog 31 #[.agg #[.slice ad n c], .int .i64 J, .slice a0 8 c0, .slice a2 n2 c2] w' (NewEffB w' true E) from fun w' a0 c0 hb hr =>
      spec_taskeffect ad n c P (sizes_of hPl hn3 HOK.out) w' (H6.out.2.2.2.1.below hb) a0 8 c0 (Mem.take 8) (by decide) hr a2 n2 c2 U (by omega) (H6.out.2.1.2.1.below hb) J true E hE)
    have HMV := Lib.hid (show ∀ w', Below w6.heap.size w6 w' → Calls Tryz.prog 32 #[.slice (some ⟨g, 0, none⟩) 49 cm] w' (NewInts w' (Mem.take 8)) from fun w' hb => spec_memvars_yes w' g 0 cm hcm Mem (H6.out.2.2.2.2.1.below hb))
    have HL8 := Lib.hid (show (Mem.take 8).length = 8 by rw [List.length_take, hlM]; rfl)
    have HXX := Lib.hid (And.intro hXl (And.intro hXv (And.intro hXo (And.intro hXT (And.intro hXC (And.intro hXN hXS))))))
    have HEE := Lib.hid (And.intro hEUn (And.intro hEV8 hES))
    have HAW := Lib.hid (show ∀ w' (q : Option Addr) (nq cq : Nat), Below w6.heap.size w6 w' → (nq : Int) ≤ 1048576 → nq ≤ cq → (∀ x, q = some x → x.spot = none) → WriteRow w' q nq (wrs M) → Calls Tryz.prog 34 #[.slice (some ⟨g, 0, none⟩) 49 cm, .slice q nq cq, .int .i64 nq] w' (NewAt w' 49 X) from fun w' q nq cq hb hnq hcq hsp hr => by
      have h9 := impl_apply w' (some ⟨g, 0, none⟩) 49 cm Mem q nq cq (wrs M) nq (by decide) hnq hcq hsp (H6.out.2.2.2.2.1.below hb) hr
      rw [show appW Mem (wrs M) (nq : Int) = X by unfold appW; rw [show ((nq : Int)).toNat = nq by omega, List.take_of_length_le (by have := hr.1; omega), hX]] at h9
      exact h9)
    have HWO := Lib.hid (show ∀ w', Below w6.heap.size w6 w' → Calls Tryz.prog 33 #[.agg #[.slice a1 n1 c1, .slice a2 n2 c2]] w' (NewWts w' (wrs M)) from fun w' hb => impl_writesof w' a1 n1 c1 a2 n2 c2 M U hc1 (H6.out.2.1.below hb) (fun m hm => by have := HCO.out.1 m hm; exact ⟨by omega, by omega⟩) _ rfl)
    have hWM : (wrs M).length ≤ 15002 := by have := wrs_lenI M; omega
    have HMSm := Lib.hid (show ∀ w', Below w6.heap.size w6 w' → Calls Tryz.prog 35 #[.slice (some ⟨g, 0, none⟩) 49 cm] w' (NewInts w' (sentV Mem)) from fun w' hb => impl_memsent_yes8 w' g 0 cm Mem (H6.out.2.2.2.2.1.below hb) (by have := pack_parts hwok; rw [hX8]; omega))
    have hlgt : gt < w6.heap.size := H6.out.1.lt
    have hlp : w1.heap.size < w6.heap.size := H6.out.2.2.2.2.2.lt
    have KEEP := Lib.hid (show ∀ w', Below w6.heap.size w6 w' → w'.cell? ⟨w1.heap.size, 0, none⟩ = some (.slice ad n c) ∧ w'.cell? ⟨gt, 1, none⟩ = some (.slice a2 n2 c2) from fun w' hb => ⟨(H6.out.2.2.2.2.2.below hb).cell 0, (H6.out.1.below hb).cell 1⟩)
    have HD := Lib.hid (show Below w6.heap.size w6 w6.drew from Below.drew (Below.refl _ w6))
    have HB6 := Lib.hid H6.out.2.2.1
    clear hx8 hX8 hJ hTL hwok hun hE hEU hXl hXv hXo hXT hXC hXN hXS hEUn hX hEV8 hES hlM
    refine Lib.hid ?_
    go_wp2_with (go_at_call 30; (with_reducible refine (HUN.out _).mono ?_); rintro e w7 ⟨rfl, rfl⟩)
    refine wp_region_held_drew (S := (fun w' => w'.cell? ⟨w1.heap.size, 0, none⟩ = some (.slice ad n c) ∧ w'.cell? ⟨gt, 1, none⟩ = some (.slice a2 n2 c2))) (by kernel_rfl) (KEEP.out _ HD.out) (fun hHeld => ?_)
    obtain ⟨ya, hy0⟩ : ∃ z, w6.drew = z := ⟨_, rfl⟩
    have hba : Below w6.heap.size w6 ya := by rw [← hy0]; exact HD.out
    rw [hy0] at hHeld ⊢
    clear hy0
    refine wpAnyH_take (i := 0) (v := .agg #[.slice ad n c]) rfl (by kernel_rfl) (by kernel_rfl) (by kernel_rfl) (fun _ _ _ h => h) (Or.inl ⟨by rfl, (by intro w' hSw; (try dsimp only at hSw); go_simp)⟩) (by assumption) ?_
    try simp only [Act.put, List.getElem_toArray, List.getElem_cons_zero, List.setIfInBounds_toArray, List.set_cons_zero, List.set_cons_succ]
    refine wpAnyH_take (i := 1) (v := .int .i64 J) rfl (by kernel_rfl) (by kernel_rfl) (by kernel_rfl) (fun _ _ _ h => h) (Or.inl ⟨by rfl, (by intro w' hSw; (try dsimp only at hSw); go_simp)⟩) (by assumption) ?_
    try simp only [Act.put, List.getElem_toArray, List.getElem_cons_zero, List.getElem_cons_succ, List.setIfInBounds_toArray, List.set_cons_zero, List.set_cons_succ]
    refine wpAnyH_take (i := 2) (v := .slice (some ⟨g, 0, none⟩) 49 cm) rfl (by kernel_rfl) (by kernel_rfl) (by kernel_rfl) (fun _ _ _ h => h) (Or.inl ⟨by rfl, (by intro w' hSw; (try dsimp only at hSw); go_simp)⟩) (by assumption) ?_
    try simp only [Act.put, List.getElem_toArray, List.getElem_cons_zero, List.getElem_cons_succ, List.setIfInBounds_toArray, List.set_cons_zero, List.set_cons_succ]
    refine wpAnyH_take (i := 4) (v := .pointer (some ⟨gt, 1, none⟩)) rfl (by kernel_rfl) (by kernel_rfl) (by kernel_rfl) (fun _ _ _ h => h) (Or.inl ⟨by rfl, (by intro w' hSw; (try dsimp only at hSw); go_simp)⟩) (by assumption) ?_
    try simp only [Act.put, List.getElem_toArray, List.getElem_cons_zero, List.getElem_cons_succ, List.setIfInBounds_toArray, List.set_cons_zero, List.set_cons_succ]
    refine wpAnyH_take (i := 5) (v := .slice a2 n2 c2) rfl (by kernel_rfl) (by kernel_rfl) (by kernel_rfl) (fun _ _ _ h => h) (Or.inl ⟨by rfl, (by intro w' hSw; (try dsimp only at hSw); go_simp)⟩) (by assumption) ?_
    try simp only [Act.put, List.getElem_toArray, List.getElem_cons_zero, List.getElem_cons_succ, List.setIfInBounds_toArray, List.set_cons_zero, List.set_cons_succ]
    refine wpAnyH_ready (rs := [3, 10]) (by kernel_rfl) (by simp) ?_
    refine AllReadyH.cons rfl (fun K hK => ?_) ?_
    rw [if_pos (by kernel_rfl)]
    go_simp
    go_at_call 32
    refine (HMV.out ya hba).mono ?_
    rintro e y0 ⟨a0, n0, c0, rfl, hm0, hbc0⟩
    obtain rfl : n0 = 8 := by have h9 := own_len hm0; rw [HL8.out] at h9; exact h9.symm
    have hb0 : Below w6.heap.size w6 y0 := below_then hba hbc0
    have hr0 : Row y0 a0 8 (Mem.take 8) := Row.of_own hm0
    refine hK.out _ _ (KEEP.out _ hb0) (fun hHeldA => ?_)
    clear hK K hHeld
    have hHeld := hHeldA
    clear hHeldA
    try simp only [Act.put, List.getElem_toArray, List.getElem_cons_zero, List.getElem_cons_succ, List.setIfInBounds_toArray, List.set_cons_zero, List.set_cons_succ]
    clear hm0 hbc0 hba ya
    refine wpAnyH_ready (rs := [6, 10]) (by kernel_rfl) (by simp) ?_
    refine AllReadyH.cons rfl (fun K hK => ?_) ?_
    rw [if_pos (by kernel_rfl)]
    go_simp
    go_at_call 31
    refine (HTE.out y0 a0 c0 hb0 hr0).mono ?_
    rintro e y1 ⟨e1, m1, k1, e2, m2, k2, rfl, hm, hbc⟩
    have hb1 : Below w6.heap.size w6 y1 := below_then hb0 hbc
    refine hK.out _ _ (KEEP.out _ hb1) (fun hHeld1 => ?_)
    clear hK K hHeld
    try simp only [Act.put, List.getElem_toArray, List.getElem_cons_zero, List.getElem_cons_succ, List.setIfInBounds_toArray, List.set_cons_zero, List.set_cons_succ]
    refine wpAnyH_take (i := 7) (v := .tuple #[effV e1 m1 k1 e2 m2 k2 E, .bool true]) rfl (by kernel_rfl) (by kernel_rfl) (by kernel_rfl) (fun _ _ _ h => h) (Or.inl ⟨by rfl, (by intro w' hSw; (try dsimp only at hSw); go_simp)⟩) (by assumption) ?_
    try simp only [Act.put, List.getElem_toArray, List.getElem_cons_zero, List.getElem_cons_succ, List.setIfInBounds_toArray, List.set_cons_zero, List.set_cons_succ]
    refine wpAnyH_take (i := 8) (v := effV e1 m1 k1 e2 m2 k2 E) rfl (by kernel_rfl) (by kernel_rfl) (by kernel_rfl) (fun _ _ _ h => h) (Or.inl ⟨by rfl, (by intro w' hSw; (try dsimp only at hSw); go_simp)⟩) (by assumption) ?_
    try simp only [Act.put, List.getElem_toArray, List.getElem_cons_zero, List.getElem_cons_succ, List.setIfInBounds_toArray, List.set_cons_zero, List.set_cons_succ]
    refine wpAnyH_take (i := 9) (v := .bool true) rfl (by kernel_rfl) (by kernel_rfl) (by kernel_rfl) (fun _ _ _ h => h) (Or.inl ⟨by rfl, (by intro w' hSw; (try dsimp only at hSw); go_simp)⟩) (by assumption) ?_
    try simp only [Act.put, List.getElem_toArray, List.getElem_cons_zero, List.getElem_cons_succ, List.setIfInBounds_toArray, List.set_cons_zero, List.set_cons_succ]
    refine wpAnyH_ready (rs := [10]) (by kernel_rfl) (by simp) ?_
    refine AllReadyH.cons rfl (fun K hK => ?_) AllReadyH.nil
    obtain ⟨yn, hyn⟩ : ∃ z, y1.alloc (.cells zero4E 60) = z := ⟨_, rfl⟩
    obtain ⟨gE, hgE⟩ : ∃ g, y1.heap.size = g := ⟨_, rfl⟩
    have hbn : Below w6.heap.size w6 yn := by rw [← hyn]; exact below_then hb1 (below_new _ _)
    have hEn : Box gE zero4E 60 yn := by rw [← hyn, ← hgE]; exact Box.new _ _ _
    have hEln : w6.heap.size ≤ gE := by rw [← hgE]; exact hb1.size
    have hVn := (hm.1.mono hb0.size).alloc (.cells zero4E 60)
    rw [hyn] at hVn
    have hSn := (hm.2.1.mono hb0.size).alloc (.cells zero4E 60)
    rw [hyn] at hSn
    have hapn := hm.2.2
    have hVEn := ne_own9 hm.1.lt (.inr (show y1.heap.size ≤ gE by omega))
    have hSEn := ne_own9 hm.2.1.lt (.inr (show y1.heap.size ≤ gE by omega))
    rw [if_pos (by kernel_rfl)]
    go_simp
    (try rw [hyn])
    (try rw [hgE])
    refine hK.out _ _ (KEEP.out _ hbn) (fun hHeldn => ?_)
    try simp only [Act.put, List.getElem_toArray, List.getElem_cons_zero, List.getElem_cons_succ, List.setIfInBounds_toArray, List.set_cons_zero, List.set_cons_succ]
    clear hK K hyn hgE hHeld1 hm hbc hb1 y1 hr0 hb0 y0
    revert hSEn
    revert hVEn
    revert hapn
    revert hSn
    revert hVn
    revert hEln
    revert hEn
    revert hbn
    revert hHeldn
    revert k2
    revert m2
    revert e2
    revert k1
    revert m1
    revert e1
    revert gE
    revert yn
    revert c0
    revert a0
    refine ?sto
    rotate_left
    refine AllReadyH.cons rfl (fun K hK => ?_) ?_
    obtain ⟨y1, hy1⟩ : ∃ z, y0.alloc (.cells zero4E 60) = z := ⟨_, rfl⟩
    obtain ⟨gE, hgE⟩ : ∃ g, y0.heap.size = g := ⟨_, rfl⟩
    have hb1 : Below w6.heap.size w6 y1 := by rw [← hy1]; exact below_then hb0 (below_new _ _)
    have hE1 : Box gE zero4E 60 y1 := by rw [← hy1, ← hgE]; exact Box.new _ _ _
    have hr1 : Row y1 a0 8 (Mem.take 8) := by rw [← hy1]; exact hr0.below (below_new _ _)
    have hEln : w6.heap.size ≤ gE := by rw [← hgE]; exact hb0.size
    rw [if_pos (by kernel_rfl)]
    go_simp
    (try rw [hy1])
    (try rw [hgE])
    refine hK.out _ _ (KEEP.out _ hb1) (fun hHeld1 => ?_)
    try simp only [Act.put, List.getElem_toArray, List.getElem_cons_zero, List.getElem_cons_succ, List.setIfInBounds_toArray, List.set_cons_zero, List.set_cons_succ]
    clear hK K hy1 hgE hHeld
    refine wpAnyH_ready (rs := [6]) (by kernel_rfl) (by simp) ?_
    refine AllReadyH.cons rfl (fun K hK => ?_) AllReadyH.nil
    rw [if_pos (by kernel_rfl)]
    go_simp
    go_at_call 31
    refine (HTE.out y1 a0 c0 hb1 hr1).mono ?_
    rintro e yn ⟨e1, m1, k1, e2, m2, k2, rfl, hm, hbc⟩
    have hbn : Below w6.heap.size w6 yn := below_then hb1 hbc
    have hEn := hE1.below hbc
    have hVn := hm.1.mono hb1.size
    have hSn := hm.2.1.mono hb1.size
    have hapn := hm.2.2
    have hVEn := ne_own9 hm.1.lt (.inl hE1.lt)
    have hSEn := ne_own9 hm.2.1.lt (.inl hE1.lt)
    refine hK.out _ _ (KEEP.out _ hbn) (fun hHeldn => ?_)
    try simp only [Act.put, List.getElem_toArray, List.getElem_cons_zero, List.getElem_cons_succ, List.setIfInBounds_toArray, List.set_cons_zero, List.set_cons_succ]
    refine wpAnyH_take (i := 7) (v := .tuple #[effV e1 m1 k1 e2 m2 k2 E, .bool true]) rfl (by kernel_rfl) (by kernel_rfl) (by kernel_rfl) (fun _ _ _ h => h) (Or.inl ⟨by rfl, (by intro w' hSw; (try dsimp only at hSw); go_simp)⟩) (by assumption) ?_
    try simp only [Act.put, List.getElem_toArray, List.getElem_cons_zero, List.getElem_cons_succ, List.setIfInBounds_toArray, List.set_cons_zero, List.set_cons_succ]
    refine wpAnyH_take (i := 8) (v := effV e1 m1 k1 e2 m2 k2 E) rfl (by kernel_rfl) (by kernel_rfl) (by kernel_rfl) (fun _ _ _ h => h) (Or.inl ⟨by rfl, (by intro w' hSw; (try dsimp only at hSw); go_simp)⟩) (by assumption) ?_
    try simp only [Act.put, List.getElem_toArray, List.getElem_cons_zero, List.getElem_cons_succ, List.setIfInBounds_toArray, List.set_cons_zero, List.set_cons_succ]
    refine wpAnyH_take (i := 9) (v := .bool true) rfl (by kernel_rfl) (by kernel_rfl) (by kernel_rfl) (fun _ _ _ h => h) (Or.inl ⟨by rfl, (by intro w' hSw; (try dsimp only at hSw); go_simp)⟩) (by assumption) ?_
    try simp only [Act.put, List.getElem_toArray, List.getElem_cons_zero, List.getElem_cons_succ, List.setIfInBounds_toArray, List.set_cons_zero, List.set_cons_succ]
    clear hK K hHeld1 hm hbc hr1 hE1 hb1 y1 hr0 hb0 y0
    revert hSEn
    revert hVEn
    revert hapn
    revert hSn
    revert hVn
    revert hEln
    revert hEn
    revert hbn
    revert hHeldn
    revert k2
    revert m2
    revert e2
    revert k1
    revert m1
    revert e1
    revert gE
    revert yn
    revert c0
    revert a0
    refine ?sto
    exact AllReadyH.nil
    refine AllReadyH.cons rfl (fun K hK => ?_) AllReadyH.nil
    obtain ⟨y1, hy1⟩ : ∃ z, ya.alloc (.cells zero4E 60) = z := ⟨_, rfl⟩
    obtain ⟨gE, hgE⟩ : ∃ g, ya.heap.size = g := ⟨_, rfl⟩
    have hb1 : Below w6.heap.size w6 y1 := by rw [← hy1]; exact below_then hba (below_new _ _)
    have hE1 : Box gE zero4E 60 y1 := by rw [← hy1, ← hgE]; exact Box.new _ _ _
    have hEln : w6.heap.size ≤ gE := by rw [← hgE]; exact hba.size
    rw [if_pos (by kernel_rfl)]
    go_simp
    (try rw [hy1])
    (try rw [hgE])
    refine hK.out _ _ (KEEP.out _ hb1) (fun hHeld1 => ?_)
    try simp only [Act.put, List.getElem_toArray, List.getElem_cons_zero, List.getElem_cons_succ, List.setIfInBounds_toArray, List.set_cons_zero, List.set_cons_succ]
    clear hK K hy1 hgE hHeld hba ya
    refine wpAnyH_ready (rs := [3]) (by kernel_rfl) (by simp) ?_
    refine AllReadyH.cons rfl (fun K hK => ?_) AllReadyH.nil
    rw [if_pos (by kernel_rfl)]
    go_simp
    go_at_call 32
    refine (HMV.out y1 hb1).mono ?_
    rintro e y2 ⟨a0, n0, c0, rfl, hm0, hbc0⟩
    obtain rfl : n0 = 8 := by have h9 := own_len hm0; rw [HL8.out] at h9; exact h9.symm
    have hb2 : Below w6.heap.size w6 y2 := below_then hb1 hbc0
    have hr2 : Row y2 a0 8 (Mem.take 8) := Row.of_own hm0
    have hE2 := hE1.below hbc0
    refine hK.out _ _ (KEEP.out _ hb2) (fun hHeld2 => ?_)
    clear hK K hHeld1 hm0 hbc0 hE1 hb1 y1
    try simp only [Act.put, List.getElem_toArray, List.getElem_cons_zero, List.getElem_cons_succ, List.setIfInBounds_toArray, List.set_cons_zero, List.set_cons_succ]
    refine wpAnyH_ready (rs := [6]) (by kernel_rfl) (by simp) ?_
    refine AllReadyH.cons rfl (fun K hK => ?_) AllReadyH.nil
    rw [if_pos (by kernel_rfl)]
    go_simp
    go_at_call 31
    refine (HTE.out y2 a0 c0 hb2 hr2).mono ?_
    rintro e yn ⟨e1, m1, k1, e2, m2, k2, rfl, hm, hbc⟩
    have hbn : Below w6.heap.size w6 yn := below_then hb2 hbc
    have hEn := hE2.below hbc
    have hVn := hm.1.mono hb2.size
    have hSn := hm.2.1.mono hb2.size
    have hapn := hm.2.2
    have hVEn := ne_own9 hm.1.lt (.inl hE2.lt)
    have hSEn := ne_own9 hm.2.1.lt (.inl hE2.lt)
    refine hK.out _ _ (KEEP.out _ hbn) (fun hHeldn => ?_)
    try simp only [Act.put, List.getElem_toArray, List.getElem_cons_zero, List.getElem_cons_succ, List.setIfInBounds_toArray, List.set_cons_zero, List.set_cons_succ]
    refine wpAnyH_take (i := 7) (v := .tuple #[effV e1 m1 k1 e2 m2 k2 E, .bool true]) rfl (by kernel_rfl) (by kernel_rfl) (by kernel_rfl) (fun _ _ _ h => h) (Or.inl ⟨by rfl, (by intro w' hSw; (try dsimp only at hSw); go_simp)⟩) (by assumption) ?_
    try simp only [Act.put, List.getElem_toArray, List.getElem_cons_zero, List.getElem_cons_succ, List.setIfInBounds_toArray, List.set_cons_zero, List.set_cons_succ]
    refine wpAnyH_take (i := 8) (v := effV e1 m1 k1 e2 m2 k2 E) rfl (by kernel_rfl) (by kernel_rfl) (by kernel_rfl) (fun _ _ _ h => h) (Or.inl ⟨by rfl, (by intro w' hSw; (try dsimp only at hSw); go_simp)⟩) (by assumption) ?_
    try simp only [Act.put, List.getElem_toArray, List.getElem_cons_zero, List.getElem_cons_succ, List.setIfInBounds_toArray, List.set_cons_zero, List.set_cons_succ]
    refine wpAnyH_take (i := 9) (v := .bool true) rfl (by kernel_rfl) (by kernel_rfl) (by kernel_rfl) (fun _ _ _ h => h) (Or.inl ⟨by rfl, (by intro w' hSw; (try dsimp only at hSw); go_simp)⟩) (by assumption) ?_
    try simp only [Act.put, List.getElem_toArray, List.getElem_cons_zero, List.getElem_cons_succ, List.setIfInBounds_toArray, List.set_cons_zero, List.set_cons_succ]
    clear hK K hHeld2 hm hbc hE2 hr2 hb2 y2
    revert hSEn
    revert hVEn
    revert hapn
    revert hSn
    revert hVn
    revert hEln
    revert hEn
    revert hbn
    revert hHeldn
    revert k2
    revert m2
    revert e2
    revert k1
    revert m1
    revert e1
    revert gE
    revert yn
    revert c0
    revert a0
    refine ?sto
    intro a0 c0 y gE e1 m1 k1 e2 m2 k2 hHeld hb hE hEl hV hS hap hVE hSE
    refine wpAnyH_ready (rs := [11]) (by kernel_rfl) (by simp) ?_
    refine AllReadyH.cons rfl (fun K hK => ?_) AllReadyH.nil
    have z0 : y.cell? ⟨gE, 0, none⟩ = some (.slice none 0 0) := hE.cell 0
    have f0 : y.frozen? ⟨gE, 0, none⟩ = false := hE.frozen 0
    have z1 : y.cell? ⟨gE, 1, none⟩ = some (.slice none 0 0) := hE.cell 1
    have f1 : y.frozen? ⟨gE, 1, none⟩ = false := hE.frozen 1
    have z2 : y.cell? ⟨gE, 2, none⟩ = some (.int .i64 0) := hE.cell 2
    have f2 : y.frozen? ⟨gE, 2, none⟩ = false := hE.frozen 2
    have z3 : y.cell? ⟨gE, 3, none⟩ = some (.int .i64 0) := hE.cell 3
    have f3 : y.frozen? ⟨gE, 3, none⟩ = false := hE.frozen 3
    have hgs : y.grownBy ((((y.setCell ⟨gE, 0, none⟩ (.slice e1 m1 k1)).setCell ⟨gE, 1, none⟩ (.slice e2 m2 k2)).setCell ⟨gE, 2, none⟩ (.int .i64 E.N)).setCell ⟨gE, 3, none⟩ (.int .i64 E.U)) (some gE) := grown_trans (grown_trans (grown_trans (grown_setCell _ _ _ _) (grown_setCell _ _ _ _)) (grown_setCell _ _ _ _)) (grown_setCell _ _ _ _)
    have hx : Box gE #[.slice e1 m1 k1, .slice e2 m2 k2, .int .i64 E.N, .int .i64 E.U] 60 ((((y.setCell ⟨gE, 0, none⟩ (.slice e1 m1 k1)).setCell ⟨gE, 1, none⟩ (.slice e2 m2 k2)).setCell ⟨gE, 2, none⟩ (.int .i64 E.N)).setCell ⟨gE, 3, none⟩ (.int .i64 E.U)) := (((hE.set 0 _).set 1 _).set 2 _).set 3 _
    obtain ⟨yn, hyn⟩ : ∃ z, ((((y.setCell ⟨gE, 0, none⟩ (.slice e1 m1 k1)).setCell ⟨gE, 1, none⟩ (.slice e2 m2 k2)).setCell ⟨gE, 2, none⟩ (.int .i64 E.N)).setCell ⟨gE, 3, none⟩ (.int .i64 E.U)) = z := ⟨_, rfl⟩
    rw [hyn] at hgs hx
    have hbn : Below w6.heap.size w6 yn := hb.grown hgs hb.size (fun q hq => by cases hq; exact hEl)
    have hVn := hV.kept hgs hVE
    have hSn := hS.kept hgs hSE
    rw [if_pos (by kernel_rfl)]
    go_simp
    (try rw [hyn])
    refine hK.out _ _ (KEEP.out _ hbn) (fun hHeldn => ?_)
    clear hK K hyn z0 z1 z2 z3 f0 f1 f2 f3 hHeld
    try simp only [Act.put, List.getElem_toArray, List.getElem_cons_zero, List.getElem_cons_succ, List.setIfInBounds_toArray, List.set_cons_zero, List.set_cons_succ]
    refine wpAnyH_take (i := 12) (v := .bool true) rfl (by kernel_rfl) (by kernel_rfl) (by kernel_rfl) (fun _ _ _ h => h) (Or.inl ⟨by rfl, (by intro w' hSw; (try dsimp only at hSw); go_simp)⟩) (by assumption) ?_
    try simp only [Act.put, List.getElem_toArray, List.getElem_cons_zero, List.getElem_cons_succ, List.setIfInBounds_toArray, List.set_cons_zero, List.set_cons_succ]
    refine wpAnyH_done (by kernel_rfl) ?_ _
    clear hHeldn hgs hE hV hS hb
    obtain rfl : m1 = 8 := by have h9 := own_len hVn; rw [HEE.out.2.1] at h9; exact h9.symm
    have hm2 : m2 ≤ 3000 := by have h9 := own_len hSn; have := HEE.out.2.2; omega
    have HK := Lib.hid (And.intro hx (And.intro (Row.of_own hVn) (And.intro hSn (And.intro hbn (H6.out.1.below hbn)))))
    clear hx hVn hSn hap hVE hSE hEl hbn KEEP HD HTE HMV
    -- the writes of the trace, and all of them in the memory
    refine Lib.hid ?_
    go_wp2_with (first
      | (refine wpList_load_row rfl 54 _ rfl gt rfl _ _ _ _ HK.out.2.2.2.2 Tryz.underlying54 rfl (by kernel_rfl) ?_)
      | (go_at_call 33; (with_reducible refine (HWO.out _ HK.out.2.2.2.1).mono ?_); rintro e w8 ⟨q, nq, cq, rfl, hq, hb8⟩; refine Hid.out ?_))
    have hql : (wrs M).length = nq := by have h9 := hq.1; rw [writesC_len] at h9; omega
    have hqr : WriteRow w8 q nq (wrs M) := wrow_own9 hq hql
    have hqs : ∀ x, q = some x → x.spot = none := by
      intro x hx; subst hx
      rcases hq.2 with ⟨e9, _⟩ | ⟨g9, c9, cur9, e9, _⟩
      · cases e9
      · cases e9; rfl
    have hqc : nq ≤ cq := mcapT hq
    have hqn : (nq : Int) ≤ 15002 := by omega
    have hb80 : Below w6.heap.size w6 w8 := below_then HK.out.2.2.2.1 hb8
    have H8 := Lib.hid (And.intro (HK.out.1.below hb8) (And.intro (HK.out.2.1.below hb8) (And.intro (HK.out.2.2.1.kept (grown_below hb8 none) (by cases e2 <;> simp [Value.ownBlock])) (And.intro hb80 (HK.out.2.2.2.2.below hb8)))))
    have HCA := Lib.hid (HAW.out w8 q nq cq hb80 (by omega) hqc hqs hqr)
    clear hq hql hqr hqs hqc hb8 hb80 HK HAW HWO hWM
    refine Lib.hid ?_
    go_wp2_with (go_at_call 34; (with_reducible refine HCA.out.mono ?_); rintro e w9 ⟨gx, rfl, hgx, hxb, hb9⟩; refine Hid.out ?_)
    have H9 := Lib.hid (And.intro hxb (And.intro (H8.out.1.below hb9) (And.intro (H8.out.2.1.below hb9) (And.intro (H8.out.2.2.1.kept (grown_below hb9 none) (by cases e2 <;> simp [Value.ownBlock])) (And.intro (below_then H8.out.2.2.2.1 hb9) (H8.out.2.2.2.2.below hb9))))))
    clear hgx hxb hb9 H8 HCA hqn
    -- what has been sent
    have HD := Lib.hid (show Below w9.heap.size w9 w9.drew from Below.drew (Below.refl _ w9))
    have KEEP := Lib.hid (show ∀ w', Below w9.heap.size w9 w' → w'.cell? ⟨gE, 1, none⟩ = some (.slice e2 m2 k2) from fun w' hb => (hb.cell (p := ⟨gE, 1, none⟩) H9.out.2.1.lt).trans (H9.out.2.1.cell 1))
    have HSL := Lib.hid (sentV_len Mem)
    obtain ⟨i0, hi, hz0, hz1, hz2⟩ := info_parts row.infoInt
    refine Lib.hid ?_
    go_wp2
    refine wp_region_held_drew (S := (fun w' => w'.cell? ⟨gE, 1, none⟩ = some (.slice e2 m2 k2))) (by kernel_rfl) (KEEP.out _ HD.out) (fun hHeld => ?_)
    obtain ⟨s0, hy0⟩ : ∃ z, w9.drew = z := ⟨_, rfl⟩
    have hc0 : Below w9.heap.size w9 s0 := by rw [← hy0]; exact HD.out
    rw [hy0] at hHeld ⊢
    clear hy0
    refine wpAnyH_take (i := 0) (v := .slice (some ⟨g, 0, none⟩) 49 cm) rfl (by kernel_rfl) (by kernel_rfl) (by kernel_rfl) (fun _ _ _ h => h) (Or.inl ⟨by rfl, (by intro w' hSw; (try dsimp only at hSw); go_simp)⟩) (by assumption) ?_
    try simp only [Act.put, List.getElem_toArray, List.getElem_cons_zero, List.setIfInBounds_toArray, List.set_cons_zero, List.set_cons_succ]
    refine wpAnyH_take (i := 2) (v := .pointer (some ⟨gE, 1, none⟩)) rfl (by kernel_rfl) (by kernel_rfl) (by kernel_rfl) (fun _ _ _ h => h) (Or.inl ⟨by rfl, (by intro w' hSw; (try dsimp only at hSw); go_simp)⟩) (by assumption) ?_
    try simp only [Act.put, List.getElem_toArray, List.getElem_cons_zero, List.getElem_cons_succ, List.setIfInBounds_toArray, List.set_cons_zero, List.set_cons_succ]
    refine wpAnyH_take (i := 3) (v := .slice e2 m2 k2) rfl (by kernel_rfl) (by kernel_rfl) (by kernel_rfl) (fun _ _ _ h => h) (Or.inl ⟨by rfl, (by intro w' hSw; (try dsimp only at hSw); go_simp)⟩) (by assumption) ?_
    try simp only [Act.put, List.getElem_toArray, List.getElem_cons_zero, List.getElem_cons_succ, List.setIfInBounds_toArray, List.set_cons_zero, List.set_cons_succ]
    refine wpAnyH_ready (rs := [1]) (by kernel_rfl) (by simp) ?_
    refine AllReadyH.cons rfl (fun K hK => ?_) AllReadyH.nil
    rw [if_pos (by kernel_rfl)]
    go_simp
    go_at_call 35
    refine (HMSm.out s0 (below_then H9.out.2.2.2.2.1 hc0)).mono ?_
    rintro e s1 ⟨aS, nS, cS, rfl, hoS, hbc⟩
    have hc1' : Below w9.heap.size w9 s1 := below_then hc0 hbc
    have hA1 := hoS.mono hc0.size
    have hnS : nS ≤ 24 := by have h9 := own_len hoS; have := HSL.out; omega
    refine hK.out _ _ (KEEP.out _ hc1') (fun hHeld1 => ?_)
    clear hK K hHeld hoS hbc hc0 s0
    try simp only [Act.put, List.getElem_toArray, List.getElem_cons_zero, List.getElem_cons_succ, List.setIfInBounds_toArray, List.set_cons_zero, List.set_cons_succ]
    refine wpAnyH_ready (rs := [4]) (by kernel_rfl) (by simp) ?_
    refine AllReadyH.cons rfl (fun K hK => ?_) AllReadyH.nil
    refine aps.step_append_src _ (by rfl) _ _ _ (by rfl) w9.heap.size _ 3 i0 (.int .i64 0) 1 8 Tryz.underlying27 hi hz0 hz1 hz2 rfl (by decide) _ nS _ (by rfl) hA1 (.slice e2 m2 k2) m2 (ivs E.S) (by rfl) (H9.out.2.2.2.1.kept (grown_below hc1' none) (by cases e2 <;> simp [Value.ownBlock])) (aps.ivs_one _) (by unfold maxLen; omega) (by omega) hc1'.size ?_
    intro v2 s2 hA2 hg2 hat2
    have hc2 : Below w9.heap.size w9 s2 := hc1'.grown hg2 hc1'.size (fun q hq => (hA1.lt q hq).1)
    refine hK.out _ _ (KEEP.out _ hc2) (fun hHeld2 => ?_)
    clear hK K hg2 hat2 hA1 hHeld1 hc1' s1
    try simp only [Act.put, List.getElem_toArray, List.getElem_cons_zero, List.getElem_cons_succ, List.setIfInBounds_toArray, List.set_cons_zero, List.set_cons_succ]
    obtain ⟨aL, cL, rfl, hcL, hLg⟩ := aps.own_sliceA hA2
    obtain ⟨nL, hnL⟩ : ∃ N, nS + m2 = N := ⟨_, rfl⟩
    rw [hnL] at hA2 hcL hLg
    (try rw [hnL])
    have HRL := Lib.hid (show Row s2 aL nL (sentV Mem ++ E.S) from Row.of_own (by simpa [ivs] using hA2))
    have HLG := Lib.hid hLg
    have hnLr : nL ≤ 3024 := by omega
    refine wpAnyH_take (i := 5) (v := .slice aL nL cL) rfl (by kernel_rfl) (by kernel_rfl) (by kernel_rfl) (fun _ _ _ h => h) (Or.inl ⟨by rfl, (by intro w' hSw; (try dsimp only at hSw); go_simp)⟩) (by assumption) ?_
    try simp only [Act.put, List.getElem_toArray, List.getElem_cons_zero, List.getElem_cons_succ, List.setIfInBounds_toArray, List.set_cons_zero, List.set_cons_succ]
    refine wpAnyH_done (by kernel_rfl) ?_ _
    have HZ := Lib.hid (And.intro (H9.out.1.below hc2) (And.intro (H9.out.2.1.below hc2) (And.intro (H9.out.2.2.1.below hc2) (And.intro (below_then H9.out.2.2.2.2.1 hc2) (H9.out.2.2.2.2.2.below hc2)))))
    clear hA2 hLg HD KEEP H9 hHeld2 hc2 HMSm HSL hi hz0 hz1 hz2 i0 hnL hnS
    -- the new memory's control word
    obtain ⟨xx, hxx⟩ : ∃ x, X[8]? = some x := ⟨X[8]'(by have := HXX.out.1; omega), by simp [HXX.out.1]⟩
    have hXg : X.getD 8 0 = xx := by rw [List.getD_eq_getElem?_getD, hxx]; rfl
    obtain ⟨NL, hNL⟩ : ∃ N, min 24 (TL + ((E.S.length : Nat) : Int)) = N := ⟨_, rfl⟩
    have hNLr : TL ≤ NL := by omega
    obtain ⟨NX, hNX⟩ : ∃ N, E.N = N := ⟨_, rfl⟩
    have hxo : wOk xx = true := by rw [← hXg]; exact HXX.out.2.2.1
    have HUX := Lib.hid (show ∀ w', Calls Tryz.prog 36 #[.int .i64 xx] w' (RetT w' NX 0 NL) from fun w' => impl_unpack_is xx _ _ _ (by have := pack_parts hxo; exact ⟨by omega, by omega⟩) (by unfold unT unC unN; rw [hxo, ← hXg, ← hNX, ← hNL]; exact ⟨HXX.out.2.2.2.1, HXX.out.2.2.2.2.1, HXX.out.2.2.2.2.2.1⟩) w')
    have HVX := Lib.hid (show ∀ w', Below s2.heap.size s2 w' → Calls Tryz.prog 38 #[.slice (some ⟨gx, 0, none⟩) 49 49] w' (NewInts w' E.V) from fun w' hb => by
      have h9 := impl_memvars_yes w' gx 0 49 X (box_row9 (HZ.out.1.below hb) HXX.out.1)
      rw [HXX.out.2.1] at h9
      exact h9)
    have HSX := Lib.hid (show ∀ w', Below s2.heap.size s2 w' → Calls Tryz.prog 35 #[.slice (some ⟨gx, 0, none⟩) 49 49] w' (NewInts w' (sentV X)) from fun w' hb => impl_memsent_yes8 w' gx 0 49 X (box_row9 (HZ.out.1.below hb) HXX.out.1) (by have := pack_parts hxo; rw [hXg]; omega))
    have p8 : s2.cell? ⟨gx, 8, none⟩ = some (.int .i64 xx) := by rw [HZ.out.1.cell]; simp [ivs, hxx]
    have HD := Lib.hid (show Below s2.heap.size s2 s2.drew from Below.drew (Below.refl _ s2))
    have KEEP := Lib.hid (show ∀ w', Below s2.heap.size s2 w' → w'.cell? ⟨gE, 0, none⟩ = some (.slice e1 8 k1) ∧ w'.cell? ⟨gE, 2, none⟩ = some (.int .i64 NX) ∧ w'.cell? ⟨gE, 3, none⟩ = some (.int .i64 (n2 : Int)) ∧ w'.cell? ⟨gt, 1, none⟩ = some (.slice a2 n2 c2) from fun w' hb => ⟨(HZ.out.2.1.below hb).cell 0, by rw [← hNX]; exact (HZ.out.2.1.below hb).cell 2, by rw [← HEE.out.1]; exact (HZ.out.2.1.below hb).cell 3, (HZ.out.2.2.2.2.below hb).cell 1⟩)
    have HSE := Lib.hid HXX.out.2.2.2.2.2.2
    have HV8 := Lib.hid HEE.out.2.1
    have hn2I : (n2 : Int) ≤ 1048576 := by have := H6.out.2.1.2.2.2; omega
    have hkk : ((n2 : Int) == (n2 : Int)) = true := by simp
    have hNN : (NX == NX) = true := by simp
    have hge : decide (TL ≤ NL) = true := by simp [hNLr]
    clear hxx hXg hNL hNX hxo HXX HEE
    refine Lib.hid ?_
    by_cases hgt : 24 < nL
    · have hgtI : (24 : Int) < nL := by omega
      obtain ⟨gL9, rfl⟩ := HLG.out (by omega)
      have hcut := aps.cut_hI gL9 nL cL 24 24 rfl (by omega)
      have HRW := Lib.hid (show Row s2 (some ⟨gL9, 0, none⟩) 24 (sentV X) from by rw [HSE.out]; exact aps.row_head HRL.out (by omega))
      go_wp2_with (go_at_call 36; (with_reducible refine (HUX.out _).mono ?_); rintro e wu ⟨rfl, rfl⟩)
      refine wp_region_held_drew (S := (fun w' => w'.cell? ⟨gE, 0, none⟩ = some (.slice e1 8 k1) ∧ w'.cell? ⟨gE, 2, none⟩ = some (.int .i64 NX) ∧ w'.cell? ⟨gE, 3, none⟩ = some (.int .i64 (n2 : Int)) ∧ w'.cell? ⟨gt, 1, none⟩ = some (.slice a2 n2 c2))) (by kernel_rfl) (KEEP.out _ HD.out) (fun hHeld => ?_)
      obtain ⟨y0, hy0⟩ : ∃ z, s2.drew = z := ⟨_, rfl⟩
      have hb0 : Below s2.heap.size s2 y0 := by rw [← hy0]; exact HD.out
      rw [hy0] at hHeld ⊢
      clear hy0
      refine wpAnyH_take (i := 0) (v := .bool true) rfl (by kernel_rfl) (by kernel_rfl) (by kernel_rfl) (fun _ _ _ h => h) (Or.inl ⟨by rfl, (by intro w' hSw; (try dsimp only at hSw); go_simp)⟩) (by assumption) ?_
      try simp only [Act.put, List.getElem_toArray, List.getElem_cons_zero, List.setIfInBounds_toArray, List.set_cons_zero, List.set_cons_succ]
      refine wpAnyH_take (i := 1) (v := .bool true) rfl (by kernel_rfl) (by kernel_rfl) (by kernel_rfl) (fun _ _ _ h => h) (Or.inl ⟨by rfl, (by intro w' hSw; (try dsimp only at hSw); go_simp)⟩) (by assumption) ?_
      try simp only [Act.put, List.getElem_toArray, List.getElem_cons_zero, List.getElem_cons_succ, List.setIfInBounds_toArray, List.set_cons_zero, List.set_cons_succ]
      refine wpAnyH_take (i := 2) (v := .pointer (some ⟨gE, 3, none⟩)) rfl (by kernel_rfl) (by kernel_rfl) (by kernel_rfl) (fun _ _ _ h => h) (Or.inl ⟨by rfl, (by intro w' hSw; (try dsimp only at hSw); go_simp)⟩) (by assumption) ?_
      try simp only [Act.put, List.getElem_toArray, List.getElem_cons_zero, List.getElem_cons_succ, List.setIfInBounds_toArray, List.set_cons_zero, List.set_cons_succ]
      refine wpAnyH_take (i := 3) (v := .int .i64 (n2 : Int)) rfl (by kernel_rfl) (by kernel_rfl) (by kernel_rfl) (fun _ _ _ h => h) (Or.inl ⟨by rfl, (by intro w' hSw; (try dsimp only at hSw); go_simp)⟩) (by assumption) ?_
      try simp only [Act.put, List.getElem_toArray, List.getElem_cons_zero, List.getElem_cons_succ, List.setIfInBounds_toArray, List.set_cons_zero, List.set_cons_succ]
      refine wpAnyH_take (i := 4) (v := .pointer (some ⟨gt, 1, none⟩)) rfl (by kernel_rfl) (by kernel_rfl) (by kernel_rfl) (fun _ _ _ h => h) (Or.inl ⟨by rfl, (by intro w' hSw; (try dsimp only at hSw); go_simp)⟩) (by assumption) ?_
      try simp only [Act.put, List.getElem_toArray, List.getElem_cons_zero, List.getElem_cons_succ, List.setIfInBounds_toArray, List.set_cons_zero, List.set_cons_succ]
      refine wpAnyH_take (i := 5) (v := .slice a2 n2 c2) rfl (by kernel_rfl) (by kernel_rfl) (by kernel_rfl) (fun _ _ _ h => h) (Or.inl ⟨by rfl, (by intro w' hSw; (try dsimp only at hSw); go_simp)⟩) (by assumption) ?_
      try simp only [Act.put, List.getElem_toArray, List.getElem_cons_zero, List.getElem_cons_succ, List.setIfInBounds_toArray, List.set_cons_zero, List.set_cons_succ]
      refine wpAnyH_take (i := 6) (v := .int .i64 (n2 : Int)) rfl (by kernel_rfl) (by kernel_rfl) (by kernel_rfl) (fun _ _ _ h => h) (Or.inl ⟨by rfl, (by intro w' hSw; (try dsimp only at hSw); go_simp)⟩) (by assumption) ?_
      try simp only [Act.put, List.getElem_toArray, List.getElem_cons_zero, List.getElem_cons_succ, List.setIfInBounds_toArray, List.set_cons_zero, List.set_cons_succ]
      refine wpAnyH_take (i := 7) (v := .bool true) rfl (by kernel_rfl) (by kernel_rfl) (by kernel_rfl) (fun _ _ _ h => h) (Or.inl ⟨by rfl, (by intro w' hSw; (try dsimp only at hSw); go_simp)⟩) (by assumption) ?_
      try simp only [Act.put, List.getElem_toArray, List.getElem_cons_zero, List.getElem_cons_succ, List.setIfInBounds_toArray, List.set_cons_zero, List.set_cons_succ]
      refine wpAnyH_take (i := 8) (v := .bool true) rfl (by kernel_rfl) (by kernel_rfl) (by kernel_rfl) (fun _ _ _ h => h) (Or.inl ⟨by rfl, (by intro w' hSw; (try dsimp only at hSw); go_simp)⟩) (by assumption) ?_
      try simp only [Act.put, List.getElem_toArray, List.getElem_cons_zero, List.getElem_cons_succ, List.setIfInBounds_toArray, List.set_cons_zero, List.set_cons_succ]
      refine wpAnyH_take (i := 9) (v := .bool true) rfl (by kernel_rfl) (by kernel_rfl) (by kernel_rfl) (fun _ _ _ h => h) (Or.inl ⟨by rfl, (by intro w' hSw; (try dsimp only at hSw); go_simp)⟩) (by assumption) ?_
      try simp only [Act.put, List.getElem_toArray, List.getElem_cons_zero, List.getElem_cons_succ, List.setIfInBounds_toArray, List.set_cons_zero, List.set_cons_succ]
      refine wpAnyH_take (i := 10) (v := .slice (some ⟨gx, 0, none⟩) 49 49) rfl (by kernel_rfl) (by kernel_rfl) (by kernel_rfl) (fun _ _ _ h => h) (Or.inl ⟨by rfl, (by intro w' hSw; (try dsimp only at hSw); go_simp)⟩) (by assumption) ?_
      try simp only [Act.put, List.getElem_toArray, List.getElem_cons_zero, List.getElem_cons_succ, List.setIfInBounds_toArray, List.set_cons_zero, List.set_cons_succ]
      refine wpAnyH_take (i := 12) (v := .pointer (some ⟨gE, 0, none⟩)) rfl (by kernel_rfl) (by kernel_rfl) (by kernel_rfl) (fun _ _ _ h => h) (Or.inl ⟨by rfl, (by intro w' hSw; (try dsimp only at hSw); go_simp)⟩) (by assumption) ?_
      try simp only [Act.put, List.getElem_toArray, List.getElem_cons_zero, List.getElem_cons_succ, List.setIfInBounds_toArray, List.set_cons_zero, List.set_cons_succ]
      refine wpAnyH_take (i := 13) (v := .slice e1 8 k1) rfl (by kernel_rfl) (by kernel_rfl) (by kernel_rfl) (fun _ _ _ h => h) (Or.inl ⟨by rfl, (by intro w' hSw; (try dsimp only at hSw); go_simp)⟩) (by assumption) ?_
      try simp only [Act.put, List.getElem_toArray, List.getElem_cons_zero, List.getElem_cons_succ, List.setIfInBounds_toArray, List.set_cons_zero, List.set_cons_succ]
      refine wpAnyH_ready (rs := [11]) (by kernel_rfl) (by simp) ?_
      refine AllReadyH.cons rfl (fun K hK => ?_) AllReadyH.nil
      rw [if_pos (by kernel_rfl)]
      go_simp
      go_at_call 38
      refine (HVX.out y0 hb0).mono ?_
      rintro e y1 ⟨aV, nV, cV, rfl, hoV, hbc⟩
      obtain rfl : nV = 8 := by have h9 := own_len hoV; rw [HV8.out] at h9; exact h9.symm
      have hb1 : Below s2.heap.size s2 y1 := below_then hb0 hbc
      have hrV : Row y1 aV 8 E.V := Row.of_own hoV
      refine hK.out _ _ (KEEP.out _ hb1) (fun hHeld1 => ?_)
      clear hK K hHeld hoV hbc hb0 y0
      have hHeld := hHeld1
      clear hHeld1
      try simp only [Act.put, List.getElem_toArray, List.getElem_cons_zero, List.getElem_cons_succ, List.setIfInBounds_toArray, List.set_cons_zero, List.set_cons_succ]
      refine wpAnyH_ready (rs := [14]) (by kernel_rfl) (by simp) ?_
      refine AllReadyH.cons rfl (fun K hK => ?_) AllReadyH.nil
      rw [if_pos (by kernel_rfl)]
      go_simp
      go_at_call 37
      refine (same_any y1 aV e1 8 cV k1 E.V (by decide) hrV (HZ.out.2.2.1.below hb1)).mono ?_
      rintro e y2 ⟨rfl, hg⟩
      have hb2 : Below s2.heap.size s2 y2 := hb1.grown hg hb1.size (fun q hq => by cases hq)
      refine hK.out _ _ (KEEP.out _ hb2) (fun hHeld1 => ?_)
      clear hK K hHeld hg hrV hb1 y1
      have hHeld := hHeld1
      clear hHeld1
      try simp only [Act.put, List.getElem_toArray, List.getElem_cons_zero, List.getElem_cons_succ, List.setIfInBounds_toArray, List.set_cons_zero, List.set_cons_succ]
      refine wpAnyH_take (i := 15) (v := .bool true) rfl (by kernel_rfl) (by kernel_rfl) (by kernel_rfl) (fun _ _ _ h => h) (Or.inl ⟨by rfl, (by intro w' hSw; (try dsimp only at hSw); go_simp)⟩) (by assumption) ?_
      try simp only [Act.put, List.getElem_toArray, List.getElem_cons_zero, List.getElem_cons_succ, List.setIfInBounds_toArray, List.set_cons_zero, List.set_cons_succ]
      refine wpAnyH_take (i := 16) (v := .bool true) rfl (by kernel_rfl) (by kernel_rfl) (by kernel_rfl) (fun _ _ _ h => h) (Or.inl ⟨by rfl, (by intro w' hSw; (try dsimp only at hSw); go_simp)⟩) (by assumption) ?_
      try simp only [Act.put, List.getElem_toArray, List.getElem_cons_zero, List.getElem_cons_succ, List.setIfInBounds_toArray, List.set_cons_zero, List.set_cons_succ]
      refine wpAnyH_take (i := 17) (v := .slice (some ⟨gx, 0, none⟩) 49 49) rfl (by kernel_rfl) (by kernel_rfl) (by kernel_rfl) (fun _ _ _ h => h) (Or.inl ⟨by rfl, (by intro w' hSw; (try dsimp only at hSw); go_simp)⟩) (by assumption) ?_
      try simp only [Act.put, List.getElem_toArray, List.getElem_cons_zero, List.getElem_cons_succ, List.setIfInBounds_toArray, List.set_cons_zero, List.set_cons_succ]
      refine wpAnyH_take (i := 19) (v := .slice (some ⟨gL9, 0, none⟩) 24 cL) rfl (by kernel_rfl) (by kernel_rfl) (by kernel_rfl) (fun _ _ _ h => h) (Or.inl ⟨by rfl, (by intro w' hSw; (try dsimp only at hSw); go_simp)⟩) (by assumption) ?_
      try simp only [Act.put, List.getElem_toArray, List.getElem_cons_zero, List.getElem_cons_succ, List.setIfInBounds_toArray, List.set_cons_zero, List.set_cons_succ]
      refine wpAnyH_ready (rs := [18]) (by kernel_rfl) (by simp) ?_
      refine AllReadyH.cons rfl (fun K hK => ?_) AllReadyH.nil
      rw [if_pos (by kernel_rfl)]
      go_simp
      go_at_call 35
      refine (HSX.out y2 hb2).mono ?_
      rintro e y3 ⟨aW, nW, cW, rfl, hoW, hbc⟩
      obtain rfl : nW = 24 := by have h9 := own_len hoW; have h8 := HRW.out.1; omega
      have hb3 : Below s2.heap.size s2 y3 := below_then hb2 hbc
      have hrW : Row y3 aW 24 (sentV X) := Row.of_own hoW
      refine hK.out _ _ (KEEP.out _ hb3) (fun hHeld1 => ?_)
      clear hK K hHeld hoW hbc hb2 y2
      have hHeld := hHeld1
      clear hHeld1
      try simp only [Act.put, List.getElem_toArray, List.getElem_cons_zero, List.getElem_cons_succ, List.setIfInBounds_toArray, List.set_cons_zero, List.set_cons_succ]
      refine wpAnyH_ready (rs := [20]) (by kernel_rfl) (by simp) ?_
      refine AllReadyH.cons rfl (fun K hK => ?_) AllReadyH.nil
      rw [if_pos (by kernel_rfl)]
      go_simp
      go_at_call 37
      refine (same_any y3 aW (some ⟨gL9, 0, none⟩) _ cW cL (sentV X) (by omega) hrW (HRW.out.below hb3)).mono ?_
      rintro e y4 ⟨rfl, hg⟩
      have hb4 : Below s2.heap.size s2 y4 := hb3.grown hg hb3.size (fun q hq => by cases hq)
      refine hK.out _ _ (KEEP.out _ hb4) (fun hHeld1 => ?_)
      clear hK K hHeld hg hrW hb3 y3
      have hHeld := hHeld1
      clear hHeld1
      try simp only [Act.put, List.getElem_toArray, List.getElem_cons_zero, List.getElem_cons_succ, List.setIfInBounds_toArray, List.set_cons_zero, List.set_cons_succ]
      refine wpAnyH_take (i := 21) (v := .bool true) rfl (by kernel_rfl) (by kernel_rfl) (by kernel_rfl) (fun _ _ _ h => h) (Or.inl ⟨by rfl, (by intro w' hSw; (try dsimp only at hSw); go_simp)⟩) (by assumption) ?_
      try simp only [Act.put, List.getElem_toArray, List.getElem_cons_zero, List.getElem_cons_succ, List.setIfInBounds_toArray, List.set_cons_zero, List.set_cons_succ]
      refine wpAnyH_take (i := 22) (v := .bool true) rfl (by kernel_rfl) (by kernel_rfl) (by kernel_rfl) (fun _ _ _ h => h) (Or.inl ⟨by rfl, (by intro w' hSw; (try dsimp only at hSw); go_simp)⟩) (by assumption) ?_
      try simp only [Act.put, List.getElem_toArray, List.getElem_cons_zero, List.getElem_cons_succ, List.setIfInBounds_toArray, List.set_cons_zero, List.set_cons_succ]
      refine wpAnyH_take (i := 23) (v := .int .i64 NX) rfl (by kernel_rfl) (by kernel_rfl) (by kernel_rfl) (fun _ _ _ h => h) (Or.inl ⟨by rfl, (by intro w' hSw; (try dsimp only at hSw); go_simp)⟩) (by assumption) ?_
      try simp only [Act.put, List.getElem_toArray, List.getElem_cons_zero, List.getElem_cons_succ, List.setIfInBounds_toArray, List.set_cons_zero, List.set_cons_succ]
      refine wpAnyH_take (i := 24) (v := .pointer (some ⟨gE, 2, none⟩)) rfl (by kernel_rfl) (by kernel_rfl) (by kernel_rfl) (fun _ _ _ h => h) (Or.inl ⟨by rfl, (by intro w' hSw; (try dsimp only at hSw); go_simp)⟩) (by assumption) ?_
      try simp only [Act.put, List.getElem_toArray, List.getElem_cons_zero, List.getElem_cons_succ, List.setIfInBounds_toArray, List.set_cons_zero, List.set_cons_succ]
      refine wpAnyH_take (i := 25) (v := .int .i64 NX) rfl (by kernel_rfl) (by kernel_rfl) (by kernel_rfl) (fun _ _ _ h => h) (Or.inl ⟨by rfl, (by intro w' hSw; (try dsimp only at hSw); go_simp)⟩) (by assumption) ?_
      try simp only [Act.put, List.getElem_toArray, List.getElem_cons_zero, List.getElem_cons_succ, List.setIfInBounds_toArray, List.set_cons_zero, List.set_cons_succ]
      refine wpAnyH_take (i := 26) (v := .bool true) rfl (by kernel_rfl) (by kernel_rfl) (by kernel_rfl) (fun _ _ _ h => h) (Or.inl ⟨by rfl, (by intro w' hSw; (try dsimp only at hSw); go_simp)⟩) (by assumption) ?_
      try simp only [Act.put, List.getElem_toArray, List.getElem_cons_zero, List.getElem_cons_succ, List.setIfInBounds_toArray, List.set_cons_zero, List.set_cons_succ]
      refine wpAnyH_take (i := 27) (v := .bool true) rfl (by kernel_rfl) (by kernel_rfl) (by kernel_rfl) (fun _ _ _ h => h) (Or.inl ⟨by rfl, (by intro w' hSw; (try dsimp only at hSw); go_simp)⟩) (by assumption) ?_
      try simp only [Act.put, List.getElem_toArray, List.getElem_cons_zero, List.getElem_cons_succ, List.setIfInBounds_toArray, List.set_cons_zero, List.set_cons_succ]
      refine wpAnyH_take (i := 28) (v := .bool true) rfl (by kernel_rfl) (by kernel_rfl) (by kernel_rfl) (fun _ _ _ h => h) (Or.inl ⟨by rfl, (by intro w' hSw; (try dsimp only at hSw); go_simp)⟩) (by assumption) ?_
      try simp only [Act.put, List.getElem_toArray, List.getElem_cons_zero, List.getElem_cons_succ, List.setIfInBounds_toArray, List.set_cons_zero, List.set_cons_succ]
      refine wpAnyH_take (i := 29) (v := .int .i64 0) rfl (by kernel_rfl) (by kernel_rfl) (by kernel_rfl) (fun _ _ _ h => h) (Or.inl ⟨by rfl, (by intro w' hSw; (try dsimp only at hSw); go_simp)⟩) (by assumption) ?_
      try simp only [Act.put, List.getElem_toArray, List.getElem_cons_zero, List.getElem_cons_succ, List.setIfInBounds_toArray, List.set_cons_zero, List.set_cons_succ]
      refine wpAnyH_take (i := 30) (v := .bool true) rfl (by kernel_rfl) (by kernel_rfl) (by kernel_rfl) (fun _ _ _ h => h) (Or.inl ⟨by rfl, (by intro w' hSw; (try dsimp only at hSw); go_simp)⟩) (by assumption) ?_
      try simp only [Act.put, List.getElem_toArray, List.getElem_cons_zero, List.getElem_cons_succ, List.setIfInBounds_toArray, List.set_cons_zero, List.set_cons_succ]
      refine wpAnyH_take (i := 31) (v := .bool true) rfl (by kernel_rfl) (by kernel_rfl) (by kernel_rfl) (fun _ _ _ h => h) (Or.inl ⟨by rfl, (by intro w' hSw; (try dsimp only at hSw); go_simp)⟩) (by assumption) ?_
      try simp only [Act.put, List.getElem_toArray, List.getElem_cons_zero, List.getElem_cons_succ, List.setIfInBounds_toArray, List.set_cons_zero, List.set_cons_succ]
      refine wpAnyH_take (i := 32) (v := .bool true) rfl (by kernel_rfl) (by kernel_rfl) (by kernel_rfl) (fun _ _ _ h => h) (Or.inl ⟨by rfl, (by intro w' hSw; (try dsimp only at hSw); go_simp)⟩) (by assumption) ?_
      try simp only [Act.put, List.getElem_toArray, List.getElem_cons_zero, List.getElem_cons_succ, List.setIfInBounds_toArray, List.set_cons_zero, List.set_cons_succ]
      refine wpAnyH_take (i := 33) (v := .int .i64 NL) rfl (by kernel_rfl) (by kernel_rfl) (by kernel_rfl) (fun _ _ _ h => h) (Or.inl ⟨by rfl, (by intro w' hSw; (try dsimp only at hSw); go_simp)⟩) (by assumption) ?_
      try simp only [Act.put, List.getElem_toArray, List.getElem_cons_zero, List.getElem_cons_succ, List.setIfInBounds_toArray, List.set_cons_zero, List.set_cons_succ]
      refine wpAnyH_take (i := 34) (v := .int .i64 TL) rfl (by kernel_rfl) (by kernel_rfl) (by kernel_rfl) (fun _ _ _ h => h) (Or.inl ⟨by rfl, (by intro w' hSw; (try dsimp only at hSw); go_simp)⟩) (by assumption) ?_
      try simp only [Act.put, List.getElem_toArray, List.getElem_cons_zero, List.getElem_cons_succ, List.setIfInBounds_toArray, List.set_cons_zero, List.set_cons_succ]
      refine wpAnyH_take (i := 35) (v := .bool true) rfl (by kernel_rfl) (by kernel_rfl) (by kernel_rfl) (fun _ _ _ h => h) (Or.inl ⟨by rfl, (by intro w' hSw; (try dsimp only at hSw); go_simp)⟩) (by assumption) ?_
      try simp only [Act.put, List.getElem_toArray, List.getElem_cons_zero, List.getElem_cons_succ, List.setIfInBounds_toArray, List.set_cons_zero, List.set_cons_succ]
      refine wpAnyH_take (i := 36) (v := .bool true) rfl (by kernel_rfl) (by kernel_rfl) (by kernel_rfl) (fun _ _ _ h => h) (Or.inl ⟨by rfl, (by intro w' hSw; (try dsimp only at hSw); go_simp)⟩) (by assumption) ?_
      try simp only [Act.put, List.getElem_toArray, List.getElem_cons_zero, List.getElem_cons_succ, List.setIfInBounds_toArray, List.set_cons_zero, List.set_cons_succ]
      refine wpAnyH_take (i := 37) (v := .bool true) rfl (by kernel_rfl) (by kernel_rfl) (by kernel_rfl) (fun _ _ _ h => h) (Or.inl ⟨by rfl, (by intro w' hSw; (try dsimp only at hSw); go_simp)⟩) (by assumption) ?_
      try simp only [Act.put, List.getElem_toArray, List.getElem_cons_zero, List.getElem_cons_succ, List.setIfInBounds_toArray, List.set_cons_zero, List.set_cons_succ]
      refine wpAnyH_done (by kernel_rfl) ?_ _
      have HF := Lib.hid (below_then HB6.out (below_then HZ.out.2.2.2.1 hb4))
      clear hb4 hHeld
      refine Lib.hid ?_
      go_wp2
      go_ret
      exact ⟨rfl, HF.out⟩
    · have hgtI : ¬ (24 : Int) < nL := by omega
      have HRW := Lib.hid (show Row s2 aL nL (sentV X) from by rw [HSE.out, List.take_of_length_le (by have := HRL.out.1; omega)]; exact HRL.out)
      go_wp2_with (go_at_call 36; (with_reducible refine (HUX.out _).mono ?_); rintro e wu ⟨rfl, rfl⟩)
      refine wp_region_held_drew (S := (fun w' => w'.cell? ⟨gE, 0, none⟩ = some (.slice e1 8 k1) ∧ w'.cell? ⟨gE, 2, none⟩ = some (.int .i64 NX) ∧ w'.cell? ⟨gE, 3, none⟩ = some (.int .i64 (n2 : Int)) ∧ w'.cell? ⟨gt, 1, none⟩ = some (.slice a2 n2 c2))) (by kernel_rfl) (KEEP.out _ HD.out) (fun hHeld => ?_)
      obtain ⟨y0, hy0⟩ : ∃ z, s2.drew = z := ⟨_, rfl⟩
      have hb0 : Below s2.heap.size s2 y0 := by rw [← hy0]; exact HD.out
      rw [hy0] at hHeld ⊢
      clear hy0
      refine wpAnyH_take (i := 0) (v := .bool true) rfl (by kernel_rfl) (by kernel_rfl) (by kernel_rfl) (fun _ _ _ h => h) (Or.inl ⟨by rfl, (by intro w' hSw; (try dsimp only at hSw); go_simp)⟩) (by assumption) ?_
      try simp only [Act.put, List.getElem_toArray, List.getElem_cons_zero, List.setIfInBounds_toArray, List.set_cons_zero, List.set_cons_succ]
      refine wpAnyH_take (i := 1) (v := .bool true) rfl (by kernel_rfl) (by kernel_rfl) (by kernel_rfl) (fun _ _ _ h => h) (Or.inl ⟨by rfl, (by intro w' hSw; (try dsimp only at hSw); go_simp)⟩) (by assumption) ?_
      try simp only [Act.put, List.getElem_toArray, List.getElem_cons_zero, List.getElem_cons_succ, List.setIfInBounds_toArray, List.set_cons_zero, List.set_cons_succ]
      refine wpAnyH_take (i := 2) (v := .pointer (some ⟨gE, 3, none⟩)) rfl (by kernel_rfl) (by kernel_rfl) (by kernel_rfl) (fun _ _ _ h => h) (Or.inl ⟨by rfl, (by intro w' hSw; (try dsimp only at hSw); go_simp)⟩) (by assumption) ?_
      try simp only [Act.put, List.getElem_toArray, List.getElem_cons_zero, List.getElem_cons_succ, List.setIfInBounds_toArray, List.set_cons_zero, List.set_cons_succ]
      refine wpAnyH_take (i := 3) (v := .int .i64 (n2 : Int)) rfl (by kernel_rfl) (by kernel_rfl) (by kernel_rfl) (fun _ _ _ h => h) (Or.inl ⟨by rfl, (by intro w' hSw; (try dsimp only at hSw); go_simp)⟩) (by assumption) ?_
      try simp only [Act.put, List.getElem_toArray, List.getElem_cons_zero, List.getElem_cons_succ, List.setIfInBounds_toArray, List.set_cons_zero, List.set_cons_succ]
      refine wpAnyH_take (i := 4) (v := .pointer (some ⟨gt, 1, none⟩)) rfl (by kernel_rfl) (by kernel_rfl) (by kernel_rfl) (fun _ _ _ h => h) (Or.inl ⟨by rfl, (by intro w' hSw; (try dsimp only at hSw); go_simp)⟩) (by assumption) ?_
      try simp only [Act.put, List.getElem_toArray, List.getElem_cons_zero, List.getElem_cons_succ, List.setIfInBounds_toArray, List.set_cons_zero, List.set_cons_succ]
      refine wpAnyH_take (i := 5) (v := .slice a2 n2 c2) rfl (by kernel_rfl) (by kernel_rfl) (by kernel_rfl) (fun _ _ _ h => h) (Or.inl ⟨by rfl, (by intro w' hSw; (try dsimp only at hSw); go_simp)⟩) (by assumption) ?_
      try simp only [Act.put, List.getElem_toArray, List.getElem_cons_zero, List.getElem_cons_succ, List.setIfInBounds_toArray, List.set_cons_zero, List.set_cons_succ]
      refine wpAnyH_take (i := 6) (v := .int .i64 (n2 : Int)) rfl (by kernel_rfl) (by kernel_rfl) (by kernel_rfl) (fun _ _ _ h => h) (Or.inl ⟨by rfl, (by intro w' hSw; (try dsimp only at hSw); go_simp)⟩) (by assumption) ?_
      try simp only [Act.put, List.getElem_toArray, List.getElem_cons_zero, List.getElem_cons_succ, List.setIfInBounds_toArray, List.set_cons_zero, List.set_cons_succ]
      refine wpAnyH_take (i := 7) (v := .bool true) rfl (by kernel_rfl) (by kernel_rfl) (by kernel_rfl) (fun _ _ _ h => h) (Or.inl ⟨by rfl, (by intro w' hSw; (try dsimp only at hSw); go_simp)⟩) (by assumption) ?_
      try simp only [Act.put, List.getElem_toArray, List.getElem_cons_zero, List.getElem_cons_succ, List.setIfInBounds_toArray, List.set_cons_zero, List.set_cons_succ]
      refine wpAnyH_take (i := 8) (v := .bool true) rfl (by kernel_rfl) (by kernel_rfl) (by kernel_rfl) (fun _ _ _ h => h) (Or.inl ⟨by rfl, (by intro w' hSw; (try dsimp only at hSw); go_simp)⟩) (by assumption) ?_
      try simp only [Act.put, List.getElem_toArray, List.getElem_cons_zero, List.getElem_cons_succ, List.setIfInBounds_toArray, List.set_cons_zero, List.set_cons_succ]
      refine wpAnyH_take (i := 9) (v := .bool true) rfl (by kernel_rfl) (by kernel_rfl) (by kernel_rfl) (fun _ _ _ h => h) (Or.inl ⟨by rfl, (by intro w' hSw; (try dsimp only at hSw); go_simp)⟩) (by assumption) ?_
      try simp only [Act.put, List.getElem_toArray, List.getElem_cons_zero, List.getElem_cons_succ, List.setIfInBounds_toArray, List.set_cons_zero, List.set_cons_succ]
      refine wpAnyH_take (i := 10) (v := .slice (some ⟨gx, 0, none⟩) 49 49) rfl (by kernel_rfl) (by kernel_rfl) (by kernel_rfl) (fun _ _ _ h => h) (Or.inl ⟨by rfl, (by intro w' hSw; (try dsimp only at hSw); go_simp)⟩) (by assumption) ?_
      try simp only [Act.put, List.getElem_toArray, List.getElem_cons_zero, List.getElem_cons_succ, List.setIfInBounds_toArray, List.set_cons_zero, List.set_cons_succ]
      refine wpAnyH_take (i := 12) (v := .pointer (some ⟨gE, 0, none⟩)) rfl (by kernel_rfl) (by kernel_rfl) (by kernel_rfl) (fun _ _ _ h => h) (Or.inl ⟨by rfl, (by intro w' hSw; (try dsimp only at hSw); go_simp)⟩) (by assumption) ?_
      try simp only [Act.put, List.getElem_toArray, List.getElem_cons_zero, List.getElem_cons_succ, List.setIfInBounds_toArray, List.set_cons_zero, List.set_cons_succ]
      refine wpAnyH_take (i := 13) (v := .slice e1 8 k1) rfl (by kernel_rfl) (by kernel_rfl) (by kernel_rfl) (fun _ _ _ h => h) (Or.inl ⟨by rfl, (by intro w' hSw; (try dsimp only at hSw); go_simp)⟩) (by assumption) ?_
      try simp only [Act.put, List.getElem_toArray, List.getElem_cons_zero, List.getElem_cons_succ, List.setIfInBounds_toArray, List.set_cons_zero, List.set_cons_succ]
      refine wpAnyH_ready (rs := [11]) (by kernel_rfl) (by simp) ?_
      refine AllReadyH.cons rfl (fun K hK => ?_) AllReadyH.nil
      rw [if_pos (by kernel_rfl)]
      go_simp
      go_at_call 38
      refine (HVX.out y0 hb0).mono ?_
      rintro e y1 ⟨aV, nV, cV, rfl, hoV, hbc⟩
      obtain rfl : nV = 8 := by have h9 := own_len hoV; rw [HV8.out] at h9; exact h9.symm
      have hb1 : Below s2.heap.size s2 y1 := below_then hb0 hbc
      have hrV : Row y1 aV 8 E.V := Row.of_own hoV
      refine hK.out _ _ (KEEP.out _ hb1) (fun hHeld1 => ?_)
      clear hK K hHeld hoV hbc hb0 y0
      have hHeld := hHeld1
      clear hHeld1
      try simp only [Act.put, List.getElem_toArray, List.getElem_cons_zero, List.getElem_cons_succ, List.setIfInBounds_toArray, List.set_cons_zero, List.set_cons_succ]
      refine wpAnyH_ready (rs := [14]) (by kernel_rfl) (by simp) ?_
      refine AllReadyH.cons rfl (fun K hK => ?_) AllReadyH.nil
      rw [if_pos (by kernel_rfl)]
      go_simp
      go_at_call 37
      refine (same_any y1 aV e1 8 cV k1 E.V (by decide) hrV (HZ.out.2.2.1.below hb1)).mono ?_
      rintro e y2 ⟨rfl, hg⟩
      have hb2 : Below s2.heap.size s2 y2 := hb1.grown hg hb1.size (fun q hq => by cases hq)
      refine hK.out _ _ (KEEP.out _ hb2) (fun hHeld1 => ?_)
      clear hK K hHeld hg hrV hb1 y1
      have hHeld := hHeld1
      clear hHeld1
      try simp only [Act.put, List.getElem_toArray, List.getElem_cons_zero, List.getElem_cons_succ, List.setIfInBounds_toArray, List.set_cons_zero, List.set_cons_succ]
      refine wpAnyH_take (i := 15) (v := .bool true) rfl (by kernel_rfl) (by kernel_rfl) (by kernel_rfl) (fun _ _ _ h => h) (Or.inl ⟨by rfl, (by intro w' hSw; (try dsimp only at hSw); go_simp)⟩) (by assumption) ?_
      try simp only [Act.put, List.getElem_toArray, List.getElem_cons_zero, List.getElem_cons_succ, List.setIfInBounds_toArray, List.set_cons_zero, List.set_cons_succ]
      refine wpAnyH_take (i := 16) (v := .bool true) rfl (by kernel_rfl) (by kernel_rfl) (by kernel_rfl) (fun _ _ _ h => h) (Or.inl ⟨by rfl, (by intro w' hSw; (try dsimp only at hSw); go_simp)⟩) (by assumption) ?_
      try simp only [Act.put, List.getElem_toArray, List.getElem_cons_zero, List.getElem_cons_succ, List.setIfInBounds_toArray, List.set_cons_zero, List.set_cons_succ]
      refine wpAnyH_take (i := 17) (v := .slice (some ⟨gx, 0, none⟩) 49 49) rfl (by kernel_rfl) (by kernel_rfl) (by kernel_rfl) (fun _ _ _ h => h) (Or.inl ⟨by rfl, (by intro w' hSw; (try dsimp only at hSw); go_simp)⟩) (by assumption) ?_
      try simp only [Act.put, List.getElem_toArray, List.getElem_cons_zero, List.getElem_cons_succ, List.setIfInBounds_toArray, List.set_cons_zero, List.set_cons_succ]
      refine wpAnyH_take (i := 19) (v := .slice aL nL cL) rfl (by kernel_rfl) (by kernel_rfl) (by kernel_rfl) (fun _ _ _ h => h) (Or.inl ⟨by rfl, (by intro w' hSw; (try dsimp only at hSw); go_simp)⟩) (by assumption) ?_
      try simp only [Act.put, List.getElem_toArray, List.getElem_cons_zero, List.getElem_cons_succ, List.setIfInBounds_toArray, List.set_cons_zero, List.set_cons_succ]
      refine wpAnyH_ready (rs := [18]) (by kernel_rfl) (by simp) ?_
      refine AllReadyH.cons rfl (fun K hK => ?_) AllReadyH.nil
      rw [if_pos (by kernel_rfl)]
      go_simp
      go_at_call 35
      refine (HSX.out y2 hb2).mono ?_
      rintro e y3 ⟨aW, nW, cW, rfl, hoW, hbc⟩
      obtain rfl : nW = nL := by have h9 := own_len hoW; have h8 := HRW.out.1; omega
      have hb3 : Below s2.heap.size s2 y3 := below_then hb2 hbc
      have hrW : Row y3 aW nW (sentV X) := Row.of_own hoW
      refine hK.out _ _ (KEEP.out _ hb3) (fun hHeld1 => ?_)
      clear hK K hHeld hoW hbc hb2 y2
      have hHeld := hHeld1
      clear hHeld1
      try simp only [Act.put, List.getElem_toArray, List.getElem_cons_zero, List.getElem_cons_succ, List.setIfInBounds_toArray, List.set_cons_zero, List.set_cons_succ]
      refine wpAnyH_ready (rs := [20]) (by kernel_rfl) (by simp) ?_
      refine AllReadyH.cons rfl (fun K hK => ?_) AllReadyH.nil
      rw [if_pos (by kernel_rfl)]
      go_simp
      go_at_call 37
      refine (same_any y3 aW aL _ cW cL (sentV X) (by omega) hrW (HRW.out.below hb3)).mono ?_
      rintro e y4 ⟨rfl, hg⟩
      have hb4 : Below s2.heap.size s2 y4 := hb3.grown hg hb3.size (fun q hq => by cases hq)
      refine hK.out _ _ (KEEP.out _ hb4) (fun hHeld1 => ?_)
      clear hK K hHeld hg hrW hb3 y3
      have hHeld := hHeld1
      clear hHeld1
      try simp only [Act.put, List.getElem_toArray, List.getElem_cons_zero, List.getElem_cons_succ, List.setIfInBounds_toArray, List.set_cons_zero, List.set_cons_succ]
      refine wpAnyH_take (i := 21) (v := .bool true) rfl (by kernel_rfl) (by kernel_rfl) (by kernel_rfl) (fun _ _ _ h => h) (Or.inl ⟨by rfl, (by intro w' hSw; (try dsimp only at hSw); go_simp)⟩) (by assumption) ?_
      try simp only [Act.put, List.getElem_toArray, List.getElem_cons_zero, List.getElem_cons_succ, List.setIfInBounds_toArray, List.set_cons_zero, List.set_cons_succ]
      refine wpAnyH_take (i := 22) (v := .bool true) rfl (by kernel_rfl) (by kernel_rfl) (by kernel_rfl) (fun _ _ _ h => h) (Or.inl ⟨by rfl, (by intro w' hSw; (try dsimp only at hSw); go_simp)⟩) (by assumption) ?_
      try simp only [Act.put, List.getElem_toArray, List.getElem_cons_zero, List.getElem_cons_succ, List.setIfInBounds_toArray, List.set_cons_zero, List.set_cons_succ]
      refine wpAnyH_take (i := 23) (v := .int .i64 NX) rfl (by kernel_rfl) (by kernel_rfl) (by kernel_rfl) (fun _ _ _ h => h) (Or.inl ⟨by rfl, (by intro w' hSw; (try dsimp only at hSw); go_simp)⟩) (by assumption) ?_
      try simp only [Act.put, List.getElem_toArray, List.getElem_cons_zero, List.getElem_cons_succ, List.setIfInBounds_toArray, List.set_cons_zero, List.set_cons_succ]
      refine wpAnyH_take (i := 24) (v := .pointer (some ⟨gE, 2, none⟩)) rfl (by kernel_rfl) (by kernel_rfl) (by kernel_rfl) (fun _ _ _ h => h) (Or.inl ⟨by rfl, (by intro w' hSw; (try dsimp only at hSw); go_simp)⟩) (by assumption) ?_
      try simp only [Act.put, List.getElem_toArray, List.getElem_cons_zero, List.getElem_cons_succ, List.setIfInBounds_toArray, List.set_cons_zero, List.set_cons_succ]
      refine wpAnyH_take (i := 25) (v := .int .i64 NX) rfl (by kernel_rfl) (by kernel_rfl) (by kernel_rfl) (fun _ _ _ h => h) (Or.inl ⟨by rfl, (by intro w' hSw; (try dsimp only at hSw); go_simp)⟩) (by assumption) ?_
      try simp only [Act.put, List.getElem_toArray, List.getElem_cons_zero, List.getElem_cons_succ, List.setIfInBounds_toArray, List.set_cons_zero, List.set_cons_succ]
      refine wpAnyH_take (i := 26) (v := .bool true) rfl (by kernel_rfl) (by kernel_rfl) (by kernel_rfl) (fun _ _ _ h => h) (Or.inl ⟨by rfl, (by intro w' hSw; (try dsimp only at hSw); go_simp)⟩) (by assumption) ?_
      try simp only [Act.put, List.getElem_toArray, List.getElem_cons_zero, List.getElem_cons_succ, List.setIfInBounds_toArray, List.set_cons_zero, List.set_cons_succ]
      refine wpAnyH_take (i := 27) (v := .bool true) rfl (by kernel_rfl) (by kernel_rfl) (by kernel_rfl) (fun _ _ _ h => h) (Or.inl ⟨by rfl, (by intro w' hSw; (try dsimp only at hSw); go_simp)⟩) (by assumption) ?_
      try simp only [Act.put, List.getElem_toArray, List.getElem_cons_zero, List.getElem_cons_succ, List.setIfInBounds_toArray, List.set_cons_zero, List.set_cons_succ]
      refine wpAnyH_take (i := 28) (v := .bool true) rfl (by kernel_rfl) (by kernel_rfl) (by kernel_rfl) (fun _ _ _ h => h) (Or.inl ⟨by rfl, (by intro w' hSw; (try dsimp only at hSw); go_simp)⟩) (by assumption) ?_
      try simp only [Act.put, List.getElem_toArray, List.getElem_cons_zero, List.getElem_cons_succ, List.setIfInBounds_toArray, List.set_cons_zero, List.set_cons_succ]
      refine wpAnyH_take (i := 29) (v := .int .i64 0) rfl (by kernel_rfl) (by kernel_rfl) (by kernel_rfl) (fun _ _ _ h => h) (Or.inl ⟨by rfl, (by intro w' hSw; (try dsimp only at hSw); go_simp)⟩) (by assumption) ?_
      try simp only [Act.put, List.getElem_toArray, List.getElem_cons_zero, List.getElem_cons_succ, List.setIfInBounds_toArray, List.set_cons_zero, List.set_cons_succ]
      refine wpAnyH_take (i := 30) (v := .bool true) rfl (by kernel_rfl) (by kernel_rfl) (by kernel_rfl) (fun _ _ _ h => h) (Or.inl ⟨by rfl, (by intro w' hSw; (try dsimp only at hSw); go_simp)⟩) (by assumption) ?_
      try simp only [Act.put, List.getElem_toArray, List.getElem_cons_zero, List.getElem_cons_succ, List.setIfInBounds_toArray, List.set_cons_zero, List.set_cons_succ]
      refine wpAnyH_take (i := 31) (v := .bool true) rfl (by kernel_rfl) (by kernel_rfl) (by kernel_rfl) (fun _ _ _ h => h) (Or.inl ⟨by rfl, (by intro w' hSw; (try dsimp only at hSw); go_simp)⟩) (by assumption) ?_
      try simp only [Act.put, List.getElem_toArray, List.getElem_cons_zero, List.getElem_cons_succ, List.setIfInBounds_toArray, List.set_cons_zero, List.set_cons_succ]
      refine wpAnyH_take (i := 32) (v := .bool true) rfl (by kernel_rfl) (by kernel_rfl) (by kernel_rfl) (fun _ _ _ h => h) (Or.inl ⟨by rfl, (by intro w' hSw; (try dsimp only at hSw); go_simp)⟩) (by assumption) ?_
      try simp only [Act.put, List.getElem_toArray, List.getElem_cons_zero, List.getElem_cons_succ, List.setIfInBounds_toArray, List.set_cons_zero, List.set_cons_succ]
      refine wpAnyH_take (i := 33) (v := .int .i64 NL) rfl (by kernel_rfl) (by kernel_rfl) (by kernel_rfl) (fun _ _ _ h => h) (Or.inl ⟨by rfl, (by intro w' hSw; (try dsimp only at hSw); go_simp)⟩) (by assumption) ?_
      try simp only [Act.put, List.getElem_toArray, List.getElem_cons_zero, List.getElem_cons_succ, List.setIfInBounds_toArray, List.set_cons_zero, List.set_cons_succ]
      refine wpAnyH_take (i := 34) (v := .int .i64 TL) rfl (by kernel_rfl) (by kernel_rfl) (by kernel_rfl) (fun _ _ _ h => h) (Or.inl ⟨by rfl, (by intro w' hSw; (try dsimp only at hSw); go_simp)⟩) (by assumption) ?_
      try simp only [Act.put, List.getElem_toArray, List.getElem_cons_zero, List.getElem_cons_succ, List.setIfInBounds_toArray, List.set_cons_zero, List.set_cons_succ]
      refine wpAnyH_take (i := 35) (v := .bool true) rfl (by kernel_rfl) (by kernel_rfl) (by kernel_rfl) (fun _ _ _ h => h) (Or.inl ⟨by rfl, (by intro w' hSw; (try dsimp only at hSw); go_simp)⟩) (by assumption) ?_
      try simp only [Act.put, List.getElem_toArray, List.getElem_cons_zero, List.getElem_cons_succ, List.setIfInBounds_toArray, List.set_cons_zero, List.set_cons_succ]
      refine wpAnyH_take (i := 36) (v := .bool true) rfl (by kernel_rfl) (by kernel_rfl) (by kernel_rfl) (fun _ _ _ h => h) (Or.inl ⟨by rfl, (by intro w' hSw; (try dsimp only at hSw); go_simp)⟩) (by assumption) ?_
      try simp only [Act.put, List.getElem_toArray, List.getElem_cons_zero, List.getElem_cons_succ, List.setIfInBounds_toArray, List.set_cons_zero, List.set_cons_succ]
      refine wpAnyH_take (i := 37) (v := .bool true) rfl (by kernel_rfl) (by kernel_rfl) (by kernel_rfl) (fun _ _ _ h => h) (Or.inl ⟨by rfl, (by intro w' hSw; (try dsimp only at hSw); go_simp)⟩) (by assumption) ?_
      try simp only [Act.put, List.getElem_toArray, List.getElem_cons_zero, List.getElem_cons_succ, List.setIfInBounds_toArray, List.set_cons_zero, List.set_cons_succ]
      refine wpAnyH_done (by kernel_rfl) ?_ _
      have HF := Lib.hid (below_then HB6.out (below_then HZ.out.2.2.2.1 hb4))
      clear hb4 hHeld
      refine Lib.hid ?_
      go_wp2
      go_ret
      exact ⟨rfl, HF.out⟩

/-! ### THE ROW's STEP: WRITTEN OUT: LEAVE IT -/
/-- The door's own heap meets the condition: three closed facts. -/
theorem door_met (os : Os) (args : Array Value) : laidMetH Tryz.prog Rows.fnTracesRow.laid ((World.doorLaid Tryz.prog 400 os).forCall (fun _ _ => 0) ⟨#[], args, []⟩).memory :=
  laidMetH_of_parts3 (fuel := 8) (laidMet_of_run' 8 (by kernel_rfl) (by kernel_rfl)) (by kernel_rfl) (by kernel_rfl)

set_option maxRecDepth 100000 in
theorem lifted (os : Os) (started : os.Started) (H : Type) (enc : TypeId × Value → H) :
    ReturnsInHanded {} Tryz.checked os 6 .any (fun w args => (Rows.fnTracesSpec.pre enc Tryz.prog Tryz.f6 [] false w args ∧ laidMetH Tryz.prog Rows.fnTracesRow.laid w) ∧ sizedMet enc Tryz.prog Tryz.f6 (OpenSpec.ofChange Rows.fnTracesSpec) false w args) (Rows.fnTracesSpec.post enc Tryz.prog Tryz.f6 false true false false) := by
  refine returnsInHanded_of_change_and (C := Tryz.checked) (X := fun w _ => laidMetH Tryz.prog Rows.fnTracesRow.laid w) (fun _ _ _ hh h => h.of_heap hh) own started (by kernel_rfl) Tryz.func6
    (ChangeSpec.witness_shaped (enc := enc) (C := Tryz.checked) (os := os) (X := fun w _ => laidMetH Tryz.prog Rows.fnTracesRow.laid w) false (World.doorLaid Tryz.prog 400 os) #[.slice none 0 0] 8 rfl (World.shaped_of_RefB (by kernel_rfl) (by kernel_rfl)) (by kernel_rfl) (by kernel_rfl) (by kernel_rfl) (door_met os _)) ?_
  intro W base args ds gs before hval0 hW hcnd _ hL _
  have hLm : laidMet Tryz.prog Rows.fnTracesRow.laid W := by rw [MakeChecks.laidMetH_plain _ _ _ (by kernel_rfl)] at hL; exact hL
  have hval : ∀ (j : Nat) t v, Tryz.f6.params[j]? = some t → args[j]? = some v → Value.okWide Tryz.prog W .any base t v := hval0
  have hW' := hW
  obtain ⟨p, q, hA0, hV, rfl, hfz, hnd⟩ := hW
  have hA : DataW.TrodAll enc Tryz.prog W 0 (fun _ => true) true Tryz.f6.params.toList args.toList ds p := hA0
  rw [Tryz.params6] at hA hval
  obtain ⟨v0, vs0, d0, ds0, p0, q0, hargs, rfl, rfl, h0, r0⟩ := trodAll_cons hA
  obtain ⟨rfl, rfl, rfl⟩ := trodAll_nil r0
  obtain rfl : args = #[v0] := by cases args; simp_all
  obtain ⟨g1, rfl⟩ : ∃ g1, gs = [g1] := by
    obtain ⟨_, _, _, _, d1, _, e1, _⟩ := trodVars_one hV
    exact ⟨d1, e1⟩
  obtain ⟨a0, len0, cap0, rfl⟩ := okWide_slice Tryz.underlying22 (hval 0 22 v0 rfl rfl)
  have k0 := h0
  have lt0 : ∀ x ∈ p0, x.block < W.heap.size := by obtain ⟨m, hm⟩ := k0; exact DataW.trod_lt m _ _ _ hm
  obtain ⟨z0, w0⟩ : ∃ zs, IsRow .u8 W a0 len0 cap0 zs := by
    obtain ⟨fuel, hf⟩ := h0
    rcases open_ints Tryz.underlying22 Tryz.underlying5 (by kernel_rfl) hf with ⟨hcs, _⟩ | ⟨x, l, c, zs, hcs, _, hl, hm, hz, _, hcell, hwz⟩
    · simp [Value.cells] at hcs
      obtain ⟨rfl, rfl, rfl⟩ := hcs
      exact ⟨[], .inl ⟨rfl, rfl, rfl, rfl⟩⟩
    · simp [Value.cells] at hcs
      obtain ⟨rfl, rfl, rfl⟩ := hcs
      exact ⟨zs, .inr ⟨_, rfl, hl, hm, by simpa using hz, hcell, hwz⟩⟩
  clear hA0 hval0
  refine (walk a0 len0 cap0 z0 W w0 hLm).mono fun e W' ⟨he, bel⟩ => ?_
  subst he
  exact ⟨_, rfl, _, _, _, [], _, q, hW', trodAll_mk1 (shut_bool Tryz.underlying4 _), (trodAll_cons_mk (Below.trod laidOut (by kernel_rfl) (of_decide_eq_true (by kernel_rfl)) k0 bel lt0) trodAll_mk0), bel.trodVars laidOut (by kernel_rfl) hV, bel.frame _, fun h => by cases h⟩

theorem over : Rows.fnTracesRow.holds Tryz.pinned (OpenSpec.ofChange Rows.fnTracesSpec) :=
  OpenClaim.holds_of_wide 6 Tryz.f6 rfl rfl rfl rfl rfl rfl rfl ⟨rfl, rfl, rfl, rfl, rfl⟩ rfl rfl rfl rfl rfl (by kernel_rfl) Tryz.func6 (by kernel_rfl)
    (of_decide_eq_true (by kernel_rfl)) (by unfold Func.isWrapper; first | (rw [if_pos (by decide +kernel)]; kernel_rfl) | (rw [if_neg (by decide +kernel)]; exact ⟨rfl, rfl⟩))
    (fun os started H enc _ => lifted os started H enc)

/-- ████ THE STATEMENT: THE TIED CARD ████ -/
theorem proved : Rows.FnTracesCardSaid :=
  Claim7.holds_tied_plain_at .later [] [.data] true (true, "89678b23e05d9388c7d7b3961f95b3cb35559b567b202cd024a2e3cd47837206") true
    over (fun _ h => by cases h) (by kernel_rfl) (fun _ h => by cases h) fnTraces_row_tie rfl ⟨rfl, rfl⟩ (by kernel_rfl) rfl
    (fun f fn hf hfn => by
      obtain rfl : f = 6 := Option.some.inj ((show Tryz.prog.funcNamed "loop.example/g00983/laws.FnTraces" = some 6 by kernel_rfl).symm.trans hf) |>.symm
      obtain rfl : fn = Tryz.f6 := (Option.some.inj (Tryz.func6.symm.trans hfn)).symm
      exact ⟨by kernel_rfl, fun j t ht => by
        rw [Tryz.params6] at ht
        have hm : t ∈ [22] := by simpa using Array.mem_of_getElem? ht
        have hall : ([22].all fun u => !Tryz.prog.wantsStandIn u) = true := by kernel_rfl
        exact (show Tryz.prog.wantsStandIn t = false by simpa using List.all_eq_true.1 hall t hm)⟩)
    (by kernel_rfl)
#print axioms proved
end Go.Proofs.YtmgeecdgebemdaaGreatDoor.fnTraces
