/- For every input the law FnLogs returns true and leaves its argument as it was; no condition. -/
import Derived.Test.YtebokjjeeedmjaaRows
import Derived.WalkKit
import Derived.ProofKit
import Derived.OpenShut
import Derived.ShutString
import Derived.ChangeOld
import Derived.Below
import Derived.Test.YtebokjjeeedmjaaGHub37
import Derived.Test.YtebokjjeeedmjaaGHub38
import Derived.Test.YtebokjjeeedmjaaGHub45
import Derived.Test.YtebokjjeeedmjaaGHub46
import Derived.Test.YtebokjjeeedmjaaGHub47
import Derived.Test.YtebokjjeeedmjaaGHub31
import Derived.Test.YtebokjjeeedmjaaGHub16
import Derived.Deep.RegionHeld3
namespace Go.Proofs.Ytebokjjeeedmjaa.fnLogs
open Go.ChangeShapes Go.WideShapes Go.ChangeAt Go.RowKit
open Go.ChangeMaps (open_string shut_string)
set_option linter.unusedVariables false

theorem own : ownKnob Try.prog.godebug = none := by kernel_rfl
theorem laidOut : laidOutB Try.prog = true := by kernel_rfl

/-- WHAT THE WALK IS TOLD OF A SLICE OF INTEGERS THAT CAME IN: it is nil; or it leads to a row of 'cap' cells, the numbers 'zs' (the first 'len' are its elements, the rest its spare room), each fitting its kind. -/
def IsRow (k : IntKind) (w : World) (a : Option Addr) (len cap : Nat) (zs : List Int) : Prop :=
  (a = none ∧ len = 0 ∧ cap = 0 ∧ zs = []) ∨
  ∃ x, a = some x ∧ len ≤ cap ∧ cap ≤ maxLen ∧ zs.length = cap ∧ (∀ i, i < zs.length → w.cell? (x.add i) = some (.int k (zs.getD i 0))) ∧ ∀ n ∈ zs, (Lit.int k n).wf = true

open Go.Proofs.Ytebokjjeeedmjaa.row Go.Proofs.Ytebokjjeeedmjaa.val Go.Proofs.Ytebokjjeeedmjaa.expr Go.Proofs.Ytebokjjeeedmjaa.stm Go.Proofs.Ytebokjjeeedmjaa.cur Go.Proofs.Ytebokjjeeedmjaa.blk Go.Proofs.Ytebokjjeeedmjaa.sets Go.Proofs.Ytebokjjeeedmjaa.prg
theorem sizes_drawn {P : List Tk} (hl : P.length ≤ 3) (h : ∀ t ∈ P, TkOk t) : Sizes P := ⟨by omega, fun t ht => by have := (h t ht).2.1; omega⟩
theorem prg_drawn {P : List Tk} (h1 : 1 ≤ P.length) (hl : P.length ≤ 3) (h : ∀ t ∈ P, TkOk t) : IsPrg P := ⟨h1, by omega, fun t ht => ⟨(h t ht).1, (h t ht).2.2⟩⟩
theorem log_may {t : Tk} {n : Nat} (hn : t.b.length = n) {fm : Nat → Bool} (hm : Is fm (fun v => IsBlk t.b ∧ MayTo t.b n v)) {v : Nat} (h : decide ((v : Int) ∈ lst (logF t) 8) = true) : decide ((v : Int) ∈ lst fm 8) = true := by
  rw [decide_eq_true_eq, lst_mem] at h ⊢
  have h1 := (logF_is t v h.1).1 h.2
  exact ⟨h.1, (hm v h.1).2 ⟨h1.1.1, hn ▸ h1.2.1⟩⟩
set_option maxHeartbeats 8000000 in
set_option maxRecDepth 100000 in
theorem walk (a0 : Option Addr) (len0 cap0 : Nat) (z0 : List Int) (w : World) (w0 : IsRow .u8 w a0 len0 cap0 z0) :
    Calls Try.prog 3 #[.slice a0 len0 cap0] w fun e w' => e = .returned (.bool true) ∧ Below w.heap.size w w' := by
  have HB : Hid (∀ i : Nat, i < len0 → ∃ (b off : Nat) (v : Int), a0 = some ⟨b, off, none⟩ ∧ w.cell? ⟨b, off + i, none⟩ = some (.int .u8 v)) := by
    intro i hi
    rcases w0 with ⟨_, h0, _⟩ | ⟨x, rfl, hl, _, hz, hcell, _⟩
    · omega
    · obtain ⟨b, off, rfl, hc⟩ := ints_at hcell (by omega)
      exact ⟨b, off, _, rfl, hc i (by omega)⟩
  clear w0
  by_cases hbig : (1048576 : Int) < len0
  · go_enter Try.func3, Try.ntmps3
    go_wp2_with (go_at_call 7; refine (big_yes _ _ _ _ hbig).mono ?_; rintro e w1 ⟨rfl, rfl⟩)
    go_ret
    exact ⟨rfl, Below.refl _ _⟩
  · have hsm : (len0 : Int) ≤ 1048576 := by omega
    clear hbig
    go_enter Try.func3, Try.ntmps3
    go_wp2_with (first
      | (go_at_call 7; refine (big_no _ _ _ _ hsm).mono ?_; rintro e w1 ⟨rfl, rfl⟩)
      | (go_at_call 8; refine (drawprogram_any _ _ _ _ hsm HB.out).mono ?_; rintro e w1 ⟨ad, n, c, P, rfl, hn1, hn3, hnc, HOK, HR, hb1⟩; refine Hid.out ?_))
    have HA1 := Lib.hid (And.intro (Box.new w1 #[.slice none 0 0] 26) (below_new w1 (.cells #[.slice none 0 0] 26)))
    have HB1 := Lib.hid (And.intro hb1 HR.out.row)
    clear hb1 HR
    refine Lib.hid ?_
    go_wp2_with ((refine wpList_store_box rfl 26 _ _ rfl w1.heap.size _ _ HA1.out.1 #[.slice ad n c] rfl rfl rfl (by kernel_rfl) (by simp [Value.oneCell']) ?_); intro w2 hx2 hg2; refine Hid.out ?_)
    have hb2 : Below w1.heap.size w1 w2 := HA1.out.2.grown hg2 HA1.out.2.size (fun j hj => by cases hj; exact Nat.le_refl _)
    have H2 := Lib.hid (And.intro hx2 (And.intro (HB1.out.2.below hb2) (below_then HB1.out.1 hb2)))
    have hPl : P.length = n := HB1.out.2.1
    have hIP : IsPrg P := prg_drawn (by omega) (by omega) HOK.out
    have HSZ := Lib.hid (sizes_drawn (show P.length ≤ 3 by omega) HOK.out)
    obtain ⟨M, hM⟩ : ∃ M, roomN P n = M := ⟨_, rfl⟩
    have hM8 : M ≤ 8 := by rw [← hM]; exact roomN_le P n
    have HX := Lib.hid (show RoomIs P (M : Int) from .inl ⟨hIP, by rw [hPl, hM]⟩)
    have HGE := Lib.hid (show ∀ (k : Nat) (t : Tk), P[k]? = some t → k < n → logN t ≤ M from fun k t h hk => by rw [← hM]; exact roomN_ge h hk)
    have HIP := Lib.hid hIP
    clear hx2 hg2 hb2 HA1 HB1 hM hIP HOK hPl
    refine Lib.hid ?_
    go_wp2_with (first
      | (refine wpList_load_row rfl 26 _ rfl w1.heap.size rfl _ _ _ _ H2.out.1 Try.underlying26 rfl (by kernel_rfl) ?_)
      | (go_at_call 9; (with_reducible refine (impl_logroom ad n c P HSZ.out hnc _ H2.out.2.1 M HX.out).mono ?_); rintro e w3 ⟨rfl, hb3⟩; refine Hid.out ?_))
    have H3 := Lib.hid (And.intro (H2.out.1.below hb3) (And.intro (H2.out.2.1.below hb3) (below_then H2.out.2.2 hb3)))
    have hl3 : w1.heap.size < w3.heap.size := H3.out.1.lt
    clear hb3
    refine Lib.hid ?_
    go_wp2
    go_loopw [5] (fun i wr => ∃ k : Nat, k ≤ n ∧ i = .int .i64 k ∧ Hid (Below w3.heap.size w3 wr)) (fun i _ => n - (intOf i).toNat)
    case atStart => exact ⟨0, Nat.zero_le _, rfl, Below.refl _ _⟩
    case round =>
      obtain ⟨k, hk, rfl, HR⟩ := hrel
      obtain ⟨wo, rfl⟩ : ∃ wo, wo = wr := ⟨_, rfl⟩
      have HBX := Lib.hid (H3.out.1.below HR.out)
      have c1 : wo.cell? ⟨w1.heap.size, 0, none⟩ = some (.slice ad n c) := HBX.out.cell 0
      by_cases hlt : k < n
      · obtain ⟨g, off, t, rfl, hlb, ht, ab, nb, cb, hrg, hbc, hrow⟩ := (H3.out.2.1.below HR.out).2 k hlt
        have hI : (k : Int) < n := by omega
        have hnb : (nb : Int) ≤ 1048576 := by have := HSZ.out.2 t (mem_at ht); rw [hrow.1] at this; omega
        have HT := Lib.hid (And.intro (HIP.out.2.2 t (mem_at ht)) (And.intro hrow (And.intro hrg (HGE.out k t ht hlt))))
        have hlen := hrow.1
        have HXX := Lib.hid (And.intro (Box.new wo zeroTk 33) ((Below.refl wo.heap.size wo).alloc (Nat.le_refl _) (.cells zeroTk 33)))
        obtain ⟨fm, hfm⟩ := is_ex (fun v => IsBlk t.b ∧ MayTo t.b nb v)
        have HFM := Lib.hid hfm
        clear ht hrow hrg hfm
        go_wp2_with (first
          | (refine wpList_load_mid rfl 33 _ rfl g (off + k * 4) rfl (tkC ab nb cb t) _ HT.out.2.2.1 Try.underlying33 rfl (by kernel_rfl) ?_)
          | ((refine wpList_store_box rfl 33 _ _ rfl wo.heap.size _ _ HXX.out.1 #[.slice ab nb cb, .int .i64 t.o, .int .i64 t.x, .int .i64 t.y] rfl rfl rfl (by kernel_rfl) (by simp [Value.oneCell']) ?_); intro w4 hx4 hg4; refine Hid.out ?_))
        have H4 := Lib.hid (And.intro hx4 (HXX.out.2.grown hg4 HXX.out.2.size (fun j hj => by cases hj; exact Nat.le_refl _)))
        clear hx4 hg4 c1
        refine Lib.hid ?_
        go_wp2_with (first
          | (refine wpList_load_row rfl 33 _ rfl wo.heap.size rfl _ _ _ _ H4.out.1 Try.underlying33 rfl (by kernel_rfl) ?_)
          | (go_at_call 10; (with_reducible refine (impl_mustlog ab nb cb t hnb hbc _ (HT.out.2.1.below H4.out.2) (logF t) (logF_is t)).mono ?_); rintro e w5 ⟨a4, n4, c4, rfl, ho4, hb5⟩; refine Hid.out ?_))
        have hn4 : logN t = n4 := own_len ho4
        have hn8 : n4 ≤ 8 := by rw [← hn4]; exact logN_le t
        have hnM : n4 ≤ M := by rw [← hn4]; exact HT.out.2.2.2
        have H5 := Lib.hid (And.intro (H4.out.1.below hb5) (And.intro (below_then H4.out.2 hb5) (Row.of_own ho4)))
        have HN4 := Lib.hid hn4
        have d0 : w5.cell? ⟨wo.heap.size, 0, none⟩ = some (.slice ab nb cb) := H5.out.1.cell 0
        clear hb5 ho4 hn4
        refine Lib.hid ?_
        go_wp2_with (go_at_call 11; (with_reducible refine (impl_maywrite ab nb cb t.b hnb hbc _ (HT.out.2.1.below H5.out.2.1) fm HFM.out).mono ?_); rintro e w6 ⟨a5, n5, c5, rfl, ho5, hb6⟩; refine Hid.out ?_)
        have hn5 : n5 ≤ 8 := by have h1 := own_len ho5; have h2 := lst_len fm 8; omega
        have H6 := Lib.hid (And.intro (H5.out.1.below hb6) (And.intro (below_then H5.out.2.1 hb6) (And.intro (H5.out.2.2.below hb6) (Row.of_own ho5))))
        have e0 : w6.cell? ⟨wo.heap.size, 0, none⟩ = some (.slice ab nb cb) := H6.out.1.cell 0
        have e1 : w6.cell? ⟨wo.heap.size, 1, none⟩ = some (.int .i64 t.o) := H6.out.1.cell 1
        have e2 : w6.cell? ⟨wo.heap.size, 2, none⟩ = some (.int .i64 t.x) := H6.out.1.cell 2
        have e3 : w6.cell? ⟨wo.heap.size, 3, none⟩ = some (.int .i64 t.y) := H6.out.1.cell 3
        have hl6 : wo.heap.size < w6.heap.size := H6.out.1.lt
        have hnm : ¬ (M : Int) < n4 := by omega
        obtain ⟨rz, hrz⟩ : ∃ rz : Bool, ((n4 : Int) == 0) = rz := ⟨_, rfl⟩
        have HRZ := Lib.hid (show rz = true ↔ RestP t by
          rw [← hrz]
          unfold RestP
          rw [HN4.out]
          constructor
          · intro h; exact ⟨HT.out.1, by have : (n4 : Int) = 0 := by simpa using h
                                         omega⟩
          · rintro ⟨_, h⟩; rw [h]; rfl)
        clear hb6 ho5 d0
        refine Lib.hid ?_
        go_wp2_with (go_at_call 12; (with_reducible refine (impl_restart ab nb cb t hnb hbc _ (HT.out.2.1.below H6.out.2.1) rz HRZ.out).mono ?_); rintro e w7 ⟨rfl, hb7⟩; refine Hid.out ?_)
        have H7 := Lib.hid (And.intro (H6.out.1.below hb7) (And.intro (below_then H6.out.2.1 hb7) (And.intro (H6.out.2.2.1.below hb7) (H6.out.2.2.2.below hb7))))
        have hrr : (rz != rz) = false := by simp
        clear hb7 e0 e1 e2 e3 hl6
        refine Lib.hid ?_
        go_wp2
        clear hrz hrr
        go_loopw [9] (fun i wr => ∃ j : Nat, j ≤ 8 ∧ i = .int .i64 j ∧ Hid (Below w7.heap.size w7 wr)) (fun i _ => 8 - (intOf i).toNat)
        case atStart => exact ⟨0, Nat.zero_le _, rfl, Below.refl _ _⟩
        case round =>
          obtain ⟨j, hj, rfl, HRI⟩ := hrel
          by_cases hlt2 : j < 8
          · have hJ : (j : Int) < 8 := by omega
            have HD := Lib.hid (show Below wr.heap.size wr wr.drew from Below.drew (Below.refl _ wr))
            have HX8 := Lib.hid ((H7.out.1.below HRI.out).below HD.out)
            have c8 : wr.drew.cell? ⟨wo.heap.size, 0, none⟩ = some (.slice ab nb cb) ∧ wr.drew.cell? ⟨wo.heap.size, 1, none⟩ = some (.int .i64 t.o) ∧ wr.drew.cell? ⟨wo.heap.size, 2, none⟩ = some (.int .i64 t.x) ∧ wr.drew.cell? ⟨wo.heap.size, 3, none⟩ = some (.int .i64 t.y) := ⟨HX8.out.cell 0, HX8.out.cell 1, HX8.out.cell 2, HX8.out.cell 3⟩
            have l8 : wo.heap.size < wr.drew.heap.size := HX8.out.lt
            have HSR := Lib.hid (HT.out.2.1.below (below_then H7.out.2.1 (below_then HRI.out HD.out)))
            have HMU := Lib.hid ((H7.out.2.2.1.below HRI.out).below HD.out)
            have HMU9 := HMU
            have HMY := Lib.hid (H7.out.2.2.2.below HRI.out)
            have hmay : decide ((j : Int) ∈ lst (logF t) 8) = true → decide ((j : Int) ∈ lst fm 8) = true := fun h => log_may hlen HFM.out h
            cases hr1 : decide ((j : Int) ∈ lst (logF t) 8)
            · have HR1 := Lib.hid hr1
              clear hr1
              clear hmay
              go_wp2
              refine wp_region_held_drew (S := fun w' => w'.cell? ⟨wo.heap.size, 0, none⟩ = some (.slice ab nb cb) ∧ w'.cell? ⟨wo.heap.size, 1, none⟩ = some (.int .i64 t.o) ∧ w'.cell? ⟨wo.heap.size, 2, none⟩ = some (.int .i64 t.x) ∧ w'.cell? ⟨wo.heap.size, 3, none⟩ = some (.int .i64 t.y)) (by kernel_rfl) c8 (fun hHeld => ?_)
              refine wpAnyH_take (i := 0) (v := .slice a4 n4 c4) rfl (by kernel_rfl) (by kernel_rfl) (by kernel_rfl) (fun _ _ _ h => h) (Or.inl ⟨by rfl, (by intro w' hSw; (try dsimp only at hSw); go_simp)⟩) (by assumption) ?_
              try simp only [Act.put, List.getElem_toArray, List.getElem_cons_zero, List.setIfInBounds_toArray, List.set_cons_zero, List.set_cons_succ]
              refine wpAnyH_take (i := 1) (v := .int .i64 j) rfl (by kernel_rfl) (by kernel_rfl) (by kernel_rfl) (fun _ _ _ h => h) (Or.inl ⟨by rfl, (by intro w' hSw; (try dsimp only at hSw); go_simp)⟩) (by assumption) ?_
              try simp only [Act.put, List.getElem_toArray, List.getElem_cons_zero, List.getElem_cons_succ, List.setIfInBounds_toArray, List.set_cons_zero, List.set_cons_succ]
              refine wpAnyH_take (i := 3) (v := tkV ab nb cb t) rfl (by kernel_rfl) (by kernel_rfl) (by kernel_rfl) (fun _ _ _ h => h) (Or.inl ⟨by rfl, (by intro w' hSw; (try dsimp only at hSw); go_simp)⟩) (by assumption) ?_
              try simp only [Act.put, List.getElem_toArray, List.getElem_cons_zero, List.getElem_cons_succ, List.setIfInBounds_toArray, List.set_cons_zero, List.set_cons_succ]
              refine wpAnyH_take (i := 4) (v := .int .i64 j) rfl (by kernel_rfl) (by kernel_rfl) (by kernel_rfl) (fun _ _ _ h => h) (Or.inl ⟨by rfl, (by intro w' hSw; (try dsimp only at hSw); go_simp)⟩) (by assumption) ?_
              try simp only [Act.put, List.getElem_toArray, List.getElem_cons_zero, List.getElem_cons_succ, List.setIfInBounds_toArray, List.set_cons_zero, List.set_cons_succ]
              refine wpAnyH_ready (rs := [2]) (by kernel_rfl) (by simp) ?_
              refine AllReadyH.cons rfl (fun K hK => ?_) AllReadyH.nil
              rw [if_pos (by kernel_rfl)]
              go_simp
              go_at_call 13
              refine (has_any _ a4 n4 c4 _ _ false (by omega) HMU.out HR1.out).mono ?_
              rintro e wz ⟨rfl, rfl⟩
              refine hK.out _ _ (c8) (fun hHeld2 => ?_)
              clear hK K
              try simp only [Act.put, List.getElem_toArray, List.getElem_cons_zero, List.getElem_cons_succ, List.setIfInBounds_toArray, List.set_cons_zero, List.set_cons_succ]
              refine wpAnyH_ready (rs := [5]) (by kernel_rfl) (by simp) ?_
              refine AllReadyH.cons rfl (fun K hK => ?_) AllReadyH.nil
              rw [if_pos (by kernel_rfl)]
              go_simp
              go_at_call 14
              refine (impl_needslog ab nb cb t hnb hbc _ HSR.out _ false HR1.out).mono ?_
              rintro e w9 ⟨rfl, hb9⟩
              have c9 := kept4 hb9 l8 c8
              have HM9 := Lib.hid (And.intro (HMU.out.below hb9) ((HMY.out.below HD.out).below hb9))
              refine hK.out _ _ (c9) (fun hHeld5 => ?_)
              clear hK K
              try simp only [Act.put, List.getElem_toArray, List.getElem_cons_zero, List.getElem_cons_succ, List.setIfInBounds_toArray, List.set_cons_zero, List.set_cons_succ]
              refine wpAnyH_take (i := 6) (v := .bool false) rfl (by kernel_rfl) (by kernel_rfl) (by kernel_rfl) (fun _ _ _ h => h) (Or.inl ⟨by rfl, (by intro w' hSw; (try dsimp only at hSw); go_simp)⟩) (by assumption) ?_
              try simp only [Act.put, List.getElem_toArray, List.getElem_cons_zero, List.getElem_cons_succ, List.setIfInBounds_toArray, List.set_cons_zero, List.set_cons_succ]
              refine wpAnyH_take (i := 7) (v := .bool false) rfl (by kernel_rfl) (by kernel_rfl) (by kernel_rfl) (fun _ _ _ h => h) (Or.inl ⟨by rfl, (by intro w' hSw; (try dsimp only at hSw); go_simp)⟩) (by assumption) ?_
              try simp only [Act.put, List.getElem_toArray, List.getElem_cons_zero, List.getElem_cons_succ, List.setIfInBounds_toArray, List.set_cons_zero, List.set_cons_succ]
              refine wpAnyH_take (i := 8) (v := .slice a4 n4 c4) rfl (by kernel_rfl) (by kernel_rfl) (by kernel_rfl) (fun _ _ _ h => h) (Or.inl ⟨by rfl, (by intro w' hSw; (try dsimp only at hSw); go_simp)⟩) (by assumption) ?_
              try simp only [Act.put, List.getElem_toArray, List.getElem_cons_zero, List.getElem_cons_succ, List.setIfInBounds_toArray, List.set_cons_zero, List.set_cons_succ]
              refine wpAnyH_take (i := 9) (v := .int .i64 j) rfl (by kernel_rfl) (by kernel_rfl) (by kernel_rfl) (fun _ _ _ h => h) (Or.inl ⟨by rfl, (by intro w' hSw; (try dsimp only at hSw); go_simp)⟩) (by assumption) ?_
              try simp only [Act.put, List.getElem_toArray, List.getElem_cons_zero, List.getElem_cons_succ, List.setIfInBounds_toArray, List.set_cons_zero, List.set_cons_succ]
              refine wpAnyH_ready (rs := [10]) (by kernel_rfl) (by simp) ?_
              refine AllReadyH.cons rfl (fun K hK => ?_) AllReadyH.nil
              rw [if_pos (by kernel_rfl)]
              go_simp
              go_at_call 13
              refine (has_any _ a4 n4 c4 _ _ false (by omega) HM9.out.1 HR1.out).mono ?_
              rintro e wz ⟨rfl, rfl⟩
              refine hK.out _ _ (c9) (fun hHeld10 => ?_)
              clear hK K
              try simp only [Act.put, List.getElem_toArray, List.getElem_cons_zero, List.getElem_cons_succ, List.setIfInBounds_toArray, List.set_cons_zero, List.set_cons_succ]
              refine wpAnyH_take (i := 11) (v := .bool false) rfl (by kernel_rfl) (by kernel_rfl) (by kernel_rfl) (fun _ _ _ h => h) (Or.inl ⟨by rfl, (by intro w' hSw; (try dsimp only at hSw); go_simp)⟩) (by assumption) ?_
              try simp only [Act.put, List.getElem_toArray, List.getElem_cons_zero, List.getElem_cons_succ, List.setIfInBounds_toArray, List.set_cons_zero, List.set_cons_succ]
              refine wpAnyH_take (i := 12) (v := undef) rfl (by kernel_rfl) (by kernel_rfl) (by kernel_rfl) (fun _ _ _ h => h) (Or.inr ⟨by kernel_rfl, rfl⟩) (by assumption) ?_
              try simp only [Act.put, List.getElem_toArray, List.getElem_cons_zero, List.getElem_cons_succ, List.setIfInBounds_toArray, List.set_cons_zero, List.set_cons_succ]
              refine wpAnyH_take (i := 13) (v := undef) rfl (by kernel_rfl) (by kernel_rfl) (by kernel_rfl) (fun _ _ _ h => h) (Or.inr ⟨by kernel_rfl, rfl⟩) (by assumption) ?_
              try simp only [Act.put, List.getElem_toArray, List.getElem_cons_zero, List.getElem_cons_succ, List.setIfInBounds_toArray, List.set_cons_zero, List.set_cons_succ]
              refine wpAnyH_take (i := 14) (v := undef) rfl (by kernel_rfl) (by kernel_rfl) (by kernel_rfl) (fun _ _ _ h => h) (Or.inr ⟨by kernel_rfl, rfl⟩) (by assumption) ?_
              try simp only [Act.put, List.getElem_toArray, List.getElem_cons_zero, List.getElem_cons_succ, List.setIfInBounds_toArray, List.set_cons_zero, List.set_cons_succ]
              refine wpAnyH_take (i := 15) (v := undef) rfl (by kernel_rfl) (by kernel_rfl) (by kernel_rfl) (fun _ _ _ h => h) (Or.inr ⟨by kernel_rfl, rfl⟩) (by assumption) ?_
              try simp only [Act.put, List.getElem_toArray, List.getElem_cons_zero, List.getElem_cons_succ, List.setIfInBounds_toArray, List.set_cons_zero, List.set_cons_succ]
              refine wpAnyH_take (i := 16) (v := .bool false) rfl (by kernel_rfl) (by kernel_rfl) (by kernel_rfl) (fun _ _ _ h => h) (Or.inl ⟨by rfl, (by intro w' hSw; (try dsimp only at hSw); go_simp)⟩) (by assumption) ?_
              try simp only [Act.put, List.getElem_toArray, List.getElem_cons_zero, List.getElem_cons_succ, List.setIfInBounds_toArray, List.set_cons_zero, List.set_cons_succ]
              refine wpAnyH_take (i := 17) (v := .bool false) rfl (by kernel_rfl) (by kernel_rfl) (by kernel_rfl) (fun _ _ _ h => h) (Or.inl ⟨by rfl, (by intro w' hSw; (try dsimp only at hSw); go_simp)⟩) (by assumption) ?_
              try simp only [Act.put, List.getElem_toArray, List.getElem_cons_zero, List.getElem_cons_succ, List.setIfInBounds_toArray, List.set_cons_zero, List.set_cons_succ]
              refine wpAnyH_done (by kernel_rfl) ?_ _
              have HR9 := Lib.hid (below_then HRI.out (below_then HD.out hb9))
              clear hb9 c8 l8 c9 hHeld hHeld2 hHeld5 hHeld10
              refine Lib.hid ?_
              go_wp2
              go_roundw
              case rel => exact ⟨j + 1, by omega, by go_num, HR9⟩
              case measure => simp [intOf]; omega
            · have HR1 := Lib.hid hr1
              clear hr1
              have HRM := Lib.hid (hmay HR1.out)
              clear hmay
              go_wp2
              refine wp_region_held_drew (S := fun w' => w'.cell? ⟨wo.heap.size, 0, none⟩ = some (.slice ab nb cb) ∧ w'.cell? ⟨wo.heap.size, 1, none⟩ = some (.int .i64 t.o) ∧ w'.cell? ⟨wo.heap.size, 2, none⟩ = some (.int .i64 t.x) ∧ w'.cell? ⟨wo.heap.size, 3, none⟩ = some (.int .i64 t.y)) (by kernel_rfl) c8 (fun hHeld => ?_)
              refine wpAnyH_take (i := 0) (v := .slice a4 n4 c4) rfl (by kernel_rfl) (by kernel_rfl) (by kernel_rfl) (fun _ _ _ h => h) (Or.inl ⟨by rfl, (by intro w' hSw; (try dsimp only at hSw); go_simp)⟩) (by assumption) ?_
              try simp only [Act.put, List.getElem_toArray, List.getElem_cons_zero, List.setIfInBounds_toArray, List.set_cons_zero, List.set_cons_succ]
              refine wpAnyH_take (i := 1) (v := .int .i64 j) rfl (by kernel_rfl) (by kernel_rfl) (by kernel_rfl) (fun _ _ _ h => h) (Or.inl ⟨by rfl, (by intro w' hSw; (try dsimp only at hSw); go_simp)⟩) (by assumption) ?_
              try simp only [Act.put, List.getElem_toArray, List.getElem_cons_zero, List.getElem_cons_succ, List.setIfInBounds_toArray, List.set_cons_zero, List.set_cons_succ]
              refine wpAnyH_take (i := 3) (v := tkV ab nb cb t) rfl (by kernel_rfl) (by kernel_rfl) (by kernel_rfl) (fun _ _ _ h => h) (Or.inl ⟨by rfl, (by intro w' hSw; (try dsimp only at hSw); go_simp)⟩) (by assumption) ?_
              try simp only [Act.put, List.getElem_toArray, List.getElem_cons_zero, List.getElem_cons_succ, List.setIfInBounds_toArray, List.set_cons_zero, List.set_cons_succ]
              refine wpAnyH_take (i := 4) (v := .int .i64 j) rfl (by kernel_rfl) (by kernel_rfl) (by kernel_rfl) (fun _ _ _ h => h) (Or.inl ⟨by rfl, (by intro w' hSw; (try dsimp only at hSw); go_simp)⟩) (by assumption) ?_
              try simp only [Act.put, List.getElem_toArray, List.getElem_cons_zero, List.getElem_cons_succ, List.setIfInBounds_toArray, List.set_cons_zero, List.set_cons_succ]
              refine wpAnyH_ready (rs := [2]) (by kernel_rfl) (by simp) ?_
              refine AllReadyH.cons rfl (fun K hK => ?_) AllReadyH.nil
              rw [if_pos (by kernel_rfl)]
              go_simp
              go_at_call 13
              refine (has_any _ a4 n4 c4 _ _ true (by omega) HMU.out HR1.out).mono ?_
              rintro e wz ⟨rfl, rfl⟩
              refine hK.out _ _ (c8) (fun hHeld2 => ?_)
              clear hK K
              try simp only [Act.put, List.getElem_toArray, List.getElem_cons_zero, List.getElem_cons_succ, List.setIfInBounds_toArray, List.set_cons_zero, List.set_cons_succ]
              refine wpAnyH_ready (rs := [5]) (by kernel_rfl) (by simp) ?_
              refine AllReadyH.cons rfl (fun K hK => ?_) AllReadyH.nil
              rw [if_pos (by kernel_rfl)]
              go_simp
              go_at_call 14
              refine (impl_needslog ab nb cb t hnb hbc _ HSR.out _ true HR1.out).mono ?_
              rintro e w9 ⟨rfl, hb9⟩
              have c9 := kept4 hb9 l8 c8
              have HM9 := Lib.hid (And.intro (HMU.out.below hb9) ((HMY.out.below HD.out).below hb9))
              refine hK.out _ _ (c9) (fun hHeld5 => ?_)
              clear hK K
              try simp only [Act.put, List.getElem_toArray, List.getElem_cons_zero, List.getElem_cons_succ, List.setIfInBounds_toArray, List.set_cons_zero, List.set_cons_succ]
              refine wpAnyH_take (i := 6) (v := .bool false) rfl (by kernel_rfl) (by kernel_rfl) (by kernel_rfl) (fun _ _ _ h => h) (Or.inl ⟨by rfl, (by intro w' hSw; (try dsimp only at hSw); go_simp)⟩) (by assumption) ?_
              try simp only [Act.put, List.getElem_toArray, List.getElem_cons_zero, List.getElem_cons_succ, List.setIfInBounds_toArray, List.set_cons_zero, List.set_cons_succ]
              refine wpAnyH_take (i := 7) (v := .bool false) rfl (by kernel_rfl) (by kernel_rfl) (by kernel_rfl) (fun _ _ _ h => h) (Or.inl ⟨by rfl, (by intro w' hSw; (try dsimp only at hSw); go_simp)⟩) (by assumption) ?_
              try simp only [Act.put, List.getElem_toArray, List.getElem_cons_zero, List.getElem_cons_succ, List.setIfInBounds_toArray, List.set_cons_zero, List.set_cons_succ]
              refine wpAnyH_take (i := 8) (v := .slice a4 n4 c4) rfl (by kernel_rfl) (by kernel_rfl) (by kernel_rfl) (fun _ _ _ h => h) (Or.inl ⟨by rfl, (by intro w' hSw; (try dsimp only at hSw); go_simp)⟩) (by assumption) ?_
              try simp only [Act.put, List.getElem_toArray, List.getElem_cons_zero, List.getElem_cons_succ, List.setIfInBounds_toArray, List.set_cons_zero, List.set_cons_succ]
              refine wpAnyH_take (i := 9) (v := .int .i64 j) rfl (by kernel_rfl) (by kernel_rfl) (by kernel_rfl) (fun _ _ _ h => h) (Or.inl ⟨by rfl, (by intro w' hSw; (try dsimp only at hSw); go_simp)⟩) (by assumption) ?_
              try simp only [Act.put, List.getElem_toArray, List.getElem_cons_zero, List.getElem_cons_succ, List.setIfInBounds_toArray, List.set_cons_zero, List.set_cons_succ]
              refine wpAnyH_ready (rs := [10]) (by kernel_rfl) (by simp) ?_
              refine AllReadyH.cons rfl (fun K hK => ?_) AllReadyH.nil
              rw [if_pos (by kernel_rfl)]
              go_simp
              go_at_call 13
              refine (has_any _ a4 n4 c4 _ _ true (by omega) HM9.out.1 HR1.out).mono ?_
              rintro e wz ⟨rfl, rfl⟩
              refine hK.out _ _ (c9) (fun hHeld10 => ?_)
              clear hK K
              try simp only [Act.put, List.getElem_toArray, List.getElem_cons_zero, List.getElem_cons_succ, List.setIfInBounds_toArray, List.set_cons_zero, List.set_cons_succ]
              refine wpAnyH_take (i := 11) (v := .bool true) rfl (by kernel_rfl) (by kernel_rfl) (by kernel_rfl) (fun _ _ _ h => h) (Or.inl ⟨by rfl, (by intro w' hSw; (try dsimp only at hSw); go_simp)⟩) (by assumption) ?_
              try simp only [Act.put, List.getElem_toArray, List.getElem_cons_zero, List.getElem_cons_succ, List.setIfInBounds_toArray, List.set_cons_zero, List.set_cons_succ]
              refine wpAnyH_take (i := 12) (v := .slice a5 n5 c5) rfl (by kernel_rfl) (by kernel_rfl) (by kernel_rfl) (fun _ _ _ h => h) (Or.inl ⟨by rfl, (by intro w' hSw; (try dsimp only at hSw); go_simp)⟩) (by assumption) ?_
              try simp only [Act.put, List.getElem_toArray, List.getElem_cons_zero, List.getElem_cons_succ, List.setIfInBounds_toArray, List.set_cons_zero, List.set_cons_succ]
              refine wpAnyH_take (i := 13) (v := .int .i64 j) rfl (by kernel_rfl) (by kernel_rfl) (by kernel_rfl) (fun _ _ _ h => h) (Or.inl ⟨by rfl, (by intro w' hSw; (try dsimp only at hSw); go_simp)⟩) (by assumption) ?_
              try simp only [Act.put, List.getElem_toArray, List.getElem_cons_zero, List.getElem_cons_succ, List.setIfInBounds_toArray, List.set_cons_zero, List.set_cons_succ]
              refine wpAnyH_ready (rs := [14]) (by kernel_rfl) (by simp) ?_
              refine AllReadyH.cons rfl (fun K hK => ?_) AllReadyH.nil
              rw [if_pos (by kernel_rfl)]
              go_simp
              go_at_call 13
              refine (has_any _ a5 n5 c5 _ _ true (by omega) HM9.out.2 HRM.out).mono ?_
              rintro e wz ⟨rfl, rfl⟩
              refine hK.out _ _ (c9) (fun hHeld14 => ?_)
              clear hK K
              try simp only [Act.put, List.getElem_toArray, List.getElem_cons_zero, List.getElem_cons_succ, List.setIfInBounds_toArray, List.set_cons_zero, List.set_cons_succ]
              refine wpAnyH_take (i := 15) (v := .bool false) rfl (by kernel_rfl) (by kernel_rfl) (by kernel_rfl) (fun _ _ _ h => h) (Or.inl ⟨by rfl, (by intro w' hSw; (try dsimp only at hSw); go_simp)⟩) (by assumption) ?_
              try simp only [Act.put, List.getElem_toArray, List.getElem_cons_zero, List.getElem_cons_succ, List.setIfInBounds_toArray, List.set_cons_zero, List.set_cons_succ]
              refine wpAnyH_take (i := 16) (v := .bool false) rfl (by kernel_rfl) (by kernel_rfl) (by kernel_rfl) (fun _ _ _ h => h) (Or.inl ⟨by rfl, (by intro w' hSw; (try dsimp only at hSw); go_simp)⟩) (by assumption) ?_
              try simp only [Act.put, List.getElem_toArray, List.getElem_cons_zero, List.getElem_cons_succ, List.setIfInBounds_toArray, List.set_cons_zero, List.set_cons_succ]
              refine wpAnyH_take (i := 17) (v := .bool false) rfl (by kernel_rfl) (by kernel_rfl) (by kernel_rfl) (fun _ _ _ h => h) (Or.inl ⟨by rfl, (by intro w' hSw; (try dsimp only at hSw); go_simp)⟩) (by assumption) ?_
              try simp only [Act.put, List.getElem_toArray, List.getElem_cons_zero, List.getElem_cons_succ, List.setIfInBounds_toArray, List.set_cons_zero, List.set_cons_succ]
              refine wpAnyH_done (by kernel_rfl) ?_ _
              have HR9 := Lib.hid (below_then HRI.out (below_then HD.out hb9))
              clear hb9 c8 l8 c9 hHeld hHeld2 hHeld5 hHeld10 hHeld14
              refine Lib.hid ?_
              go_wp2
              go_roundw
              case rel => exact ⟨j + 1, by omega, by go_num, HR9⟩
              case measure => simp [intOf]; omega
          · obtain rfl : j = 8 := by omega
            have hJ : ¬ ((8 : Nat) : Int) < 8 := by omega
            have HRK := Lib.hid (below_then HR.out (below_then H7.out.2.1 HRI.out))
            go_wp2
            go_roundw
            case rel => exact ⟨k + 1, by omega, by go_num, HRK⟩
            case measure => simp [intOf]; omega
      · obtain rfl : k = n := by omega
        have hI : ¬ (k : Int) < k := by omega
        have hM0 : (0 : Int) ≤ M := by omega
        have hM9 : (M : Int) ≤ 8 := by omega
        go_wp2
        go_ret
        exact ⟨rfl, below_then H3.out.2.2 HR.out⟩

/-! ### THE ROW's STEP: WRITTEN OUT: LEAVE IT -/
set_option maxRecDepth 100000 in
theorem lifted (os : Os) (started : os.Started) (H : Type) (enc : TypeId × Value → H) :
    ReturnsInHanded {} Try.checked os 3 .any (Rows.fnLogsSpec.pre6 enc Try.prog Try.f3 Rows.fnLogsRow.domain false) (Rows.fnLogsSpec.post enc Try.prog Try.f3 false true false false) := by
  refine returnsInHanded_of_change (C := Try.checked) own started (by kernel_rfl) Try.func3
    (ChangeSpec.witness6 (enc := enc) (C := Try.checked) false ⟨#[], #[.slice none 0 0], []⟩ 8 (by kernel_rfl) (by kernel_rfl) (by kernel_rfl) (by kernel_rfl)) ?_
  intro W base args ds gs before hval0 hW hcnd _
  have hval : ∀ (j : Nat) t v, Try.f3.params[j]? = some t → args[j]? = some v → Value.okWide Try.prog W .any base t v := hval0
  have hW' := hW
  obtain ⟨p, q, hA0, hV, rfl, hfz, hnd⟩ := hW
  have hA : DataW.TrodAll enc Try.prog W 0 (fun _ => true) true Try.f3.params.toList args.toList ds p := hA0
  rw [Try.params3] at hA hval
  obtain ⟨v0, vs0, d0, ds0, p0, q0, hargs, rfl, rfl, h0, r0⟩ := trodAll_cons hA
  obtain ⟨rfl, rfl, rfl⟩ := trodAll_nil r0
  obtain rfl : args = #[v0] := by cases args; simp_all
  obtain ⟨rfl, rfl⟩ := trodVars_none hV
  obtain ⟨a0, len0, cap0, rfl⟩ := okWide_slice Try.underlying22 (hval 0 22 v0 rfl rfl)
  have k0 := h0
  have lt0 : ∀ x ∈ p0, x.block < W.heap.size := by obtain ⟨m, hm⟩ := k0; exact DataW.trod_lt m _ _ _ hm
  obtain ⟨z0, w0⟩ : ∃ zs, IsRow .u8 W a0 len0 cap0 zs := by
    obtain ⟨fuel, hf⟩ := h0
    rcases open_ints Try.underlying22 Try.underlying5 (by kernel_rfl) hf with ⟨hcs, _⟩ | ⟨x, l, c, zs, hcs, _, hl, hm, hz, _, hcell, hwz⟩
    · simp [Value.cells] at hcs
      obtain ⟨rfl, rfl, rfl⟩ := hcs
      exact ⟨[], .inl ⟨rfl, rfl, rfl, rfl⟩⟩
    · simp [Value.cells] at hcs
      obtain ⟨rfl, rfl, rfl⟩ := hcs
      exact ⟨zs, .inr ⟨_, rfl, hl, hm, by simpa using hz, hcell, hwz⟩⟩
  clear hA0 hval0
  refine (walk a0 len0 cap0 z0 W w0).mono fun e W' ⟨he, bel⟩ => ?_
  subst he
  exact ⟨_, rfl, _, _, _, [], _, [], hW', trodAll_mk1 (shut_bool Try.underlying4 _), (trodAll_cons_mk (Below.trod laidOut (by kernel_rfl) (of_decide_eq_true (by kernel_rfl)) k0 bel lt0) trodAll_mk0), rfl, bel.frame _, fun h => by cases h⟩

theorem over : Rows.fnLogsRow.holds Try.pinned (OpenSpec.ofChange Rows.fnLogsSpec) :=
  OpenClaim.holds_of_wide 3 Try.f3 rfl rfl rfl rfl rfl rfl rfl ⟨rfl, rfl, rfl, rfl, rfl⟩ rfl rfl rfl rfl rfl (by kernel_rfl) Try.func3 (by kernel_rfl)
    (of_decide_eq_true (by kernel_rfl)) (by unfold Func.isWrapper; first | (rw [if_pos (by decide +kernel)]; kernel_rfl) | (rw [if_neg (by decide +kernel)]; exact ⟨rfl, rfl⟩))
    (fun os started H enc _ => lifted os started H enc)

/-- ████ THE STATEMENT ████ -/
theorem proved : Rows.FnLogsSaid := over
#print axioms proved
end Go.Proofs.Ytebokjjeeedmjaa.fnLogs
