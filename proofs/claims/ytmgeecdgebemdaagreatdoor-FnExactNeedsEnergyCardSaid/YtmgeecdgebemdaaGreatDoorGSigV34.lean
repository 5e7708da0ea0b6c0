/- Several texts in one: VWtI VRecP VWtM VWtN VRecM. -/
import Derived.Test.YtmgeecdgebemdaaGreatDoorGSigV22
import Derived.Test.YtmgeecdgebemdaaGreatDoorGSigV10
import Derived.Laws.CopyOwn
import Derived.Lib.SliceRun
import Derived.Deep.Onto
import Derived.Test.YtmgeecdgebemdaaGreatDoorGSigV21
import Derived.Laws.AppendOwn
import Derived.Deep.RegionHeld3
import Derived.Deep.RegionLaw
import Derived.Deep.AppendLies

/- Chapter 10 of the program: writes applied to a copy of the memory, the first difference, the places in ascending order; nothing that was there is written. -/
namespace Go.Proofs.YtmgeecdgebemdaaGreatDoor.wrt
open Go Go.ChangeShapes Go.WideShapes Go.ChangeAt Go.RowKit Go.Proofs.YtmgeecdgebemdaaGreatDoor.row Go.Proofs.YtmgeecdgebemdaaGreatDoor.val Go.Proofs.YtmgeecdgebemdaaGreatDoor.expr Go.Proofs.YtmgeecdgebemdaaGreatDoor.grow
theorem row_range {w : World} {b off n : Nat} {L : List Int} (h : Row w (some ⟨b, off, none⟩) n L) : w.rangeAt b off (ivs L) := by
  intro j v hj
  have hjl : j < n := by have := (List.getElem?_eq_some_iff.1 hj).1; rw [ivs_length] at this; have := h.1; omega
  obtain ⟨b', off', x, e, _, hx, hc⟩ := h.2 j hjl
  cases e
  rw [hc]
  simp [ivs, hx] at hj
  rw [hj]
theorem row_some {w : World} {a : Option Addr} {n : Nat} {L : List Int} (h : Row w a n L) (hn : 0 < n) : ∃ b off, a = some ⟨b, off, none⟩ := by
  obtain ⟨b, off, _, e, _⟩ := h.2 0 hn
  exact ⟨b, off, e⟩
theorem ivs_one (L : List Int) : ∀ v ∈ ivs L, v.oneCell' = true := by intro v hv; obtain ⟨x, _, rfl⟩ := List.mem_map.1 hv; rfl
theorem box_own {w : World} {B g n : Nat} {L : List Int} {t : TypeId} (h : Box g (ivs L).toArray t w) (hB : B ≤ g) (hl : L.length = n) (hn : n ≤ maxLen) : w.ownsRow B t 1 (.slice (some ⟨g, 0, none⟩) n n) n (ivs L) :=
  ⟨by simp [ivs, hl], .inr ⟨g, n, (ivs L).toArray, rfl, hB, h, Nat.le_refl _, hn, by simp [ivs, hl], by rw [Nat.mul_one]; exact List.take_of_length_le (by simp [ivs, hl])⟩⟩
/-- A new row of 'n' words in the first new block. -/
def NewAt (w : World) (n : Nat) (L : List Int) (e : Ending) (w' : World) : Prop :=
  ∃ g, e = .returned (.slice (some ⟨g, 0, none⟩) n n) ∧ w.heap.size ≤ g ∧ Box g (ivs L).toArray 3 w' ∧ Below w.heap.size w w'
theorem splice_all {n : Nat} {L : List Int} (hl : L.length = n) : splice (ivs (List.replicate n 0)) 0 (ivs L) = ivs L := by simp [splice, ivs, hl]

set_option maxHeartbeats 1000000 in
set_option maxRecDepth 100000 in
theorem impl_copyof (w : World) (a : Option Addr) (n cap : Nat) (L : List Int) (hn : (n : Int) ≤ 1048576) (h : Row w a n L) :
    Calls Tryz.prog 59 #[.slice a n cap] w (NewAt w n L) := by
  obtain ⟨i0, hi, hz0, hz1, hz2⟩ := info_parts infoInt
  have HL := Lib.hid (show (ivs L).length = Nat.min n n by rw [ivs_length, h.1]; simp)
  have HF := Lib.hid (show 0 + (ivs L).length ≤ (ivs (List.replicate n 0)).length by simp [ivs, h.1])
  have HP : Hid (∀ w' : World, Below w.heap.size w w' → 0 < (ivs L).length → ∃ ad, a = some ad ∧ ∀ j v, (ivs L)[j]? = some v → w'.cell? (ad.add j) = some v) := fun w' hb h0 => by
    obtain ⟨b, off, rfl⟩ := row_some h (by rw [ivs_length, h.1] at h0; exact h0)
    exact ⟨_, rfl, fun j v hj => by rw [Addr.add_mid]; exact row_range (h.below hb) j v hj⟩
  have H1 := Lib.hid (ivs_one L)
  have HS := Lib.hid (splice_all h.1)
  clear h
  go_enter Tryz.func59, Tryz.ntmps59
  go_wp2_with ((refine wpList_make_full _ rfl _ _ 27 rfl w.heap.size 3 i0 _ 1 Tryz.underlying27 hi hz0 hz1 .i64 .i64 _ _ n rfl rfl rfl rfl (by rw [hz2]; omega) (by unfold maxLen; omega) (Nat.le_refl _) ?_); intro w1 hown1 hg1; refine Hid.out ?_)
  rw [made_zeros] at hown1
  have HX := Lib.hid (And.intro (own_box hown1) (below_grown hg1))
  clear hown1 hg1
  refine Lib.hid ?_
  go_wp2_with (refine wpList_copy_splice rfl _ _ 27 27 rfl 3 Tryz.underlying27 (by kernel_rfl) _ _ n n n cap rfl rfl w.heap.size 0 (ivs (List.replicate n 0)) 3 HX.out.1 (ivs L) HL.out (fun h0 => ⟨rfl, HP.out _ HX.out.2 h0⟩) HF.out H1.out w.heap.size w HX.out.2 (Nat.le_refl _) ?_; intro w3 hx3 hb3)
  go_ret
  exact ⟨w.heap.size, rfl, Nat.le_refl _, by have := hx3.out; rw [HS.out] at this; exact this, hb3⟩
set_option maxRecDepth 100000 in
theorem impl_isword (a : Option Addr) (n cap : Nat) (q : Int) (r : Bool) (hr : (decide (0 ≤ q) && decide (q < n)) = r) (w : World) : Calls Tryz.prog 92 #[.slice a n cap, .int .i64 q] w (RetB w r) := by
  subst hr
  by_cases h : 0 ≤ q
  · simp only [h, decide_true, Bool.true_and]
    go_enter Tryz.func92, Tryz.ntmps92
    go_wp2
    go_ret
    exact ⟨rfl, rfl⟩
  · simp only [h, decide_false, Bool.false_and]
    go_enter Tryz.func92, Tryz.ntmps92
    go_wp2
    go_ret
    exact ⟨rfl, rfl⟩
/-- How many of 'n' writes happen. -/
def cntW (c : Int) (n : Nat) : Nat := min c.toNat n
theorem cntW_le (c : Int) (n : Nat) : cntW c n ≤ n := Nat.min_le_right _ _
theorem take_cnt {α : Type} (L : List α) (c : Int) : L.take (cntW c L.length) = L.take c.toNat := by
  unfold cntW
  rcases Nat.le_total c.toNat L.length with h | h
  · rw [Nat.min_eq_left h]
  · rw [Nat.min_eq_right h, List.take_length, List.take_of_length_le h]
theorem impl_cut (c : Int) (n : Nat) (hn : (n : Int) ≤ 1048576) (w : World) : Calls Tryz.prog 91 #[.int .i64 c, .int .i64 0, .int .i64 n] w (Ret w (cntW c n)) := by
  rcases (show c < 0 ∨ (n : Int) < c ∧ 0 ≤ c ∨ (0 ≤ c ∧ c ≤ n) by omega) with h | ⟨h, h2⟩ | ⟨h, h2⟩
  · have HV := Lib.hid (show ((cntW c n : Nat) : Int) = 0 by unfold cntW; omega)
    go_enter Tryz.func91, Tryz.ntmps91
    go_wp2
    go_ret
    exact ⟨ret_i HV.out.symm, rfl⟩
  · have HV := Lib.hid (show ((cntW c n : Nat) : Int) = n by unfold cntW; omega)
    go_enter Tryz.func91, Tryz.ntmps91
    go_wp2
    go_ret
    exact ⟨ret_i HV.out.symm, rfl⟩
  · have HV := Lib.hid (show ((cntW c n : Nat) : Int) = c by unfold cntW; omega)
    go_enter Tryz.func91, Tryz.ntmps91
    go_wp2
    go_ret
    exact ⟨ret_i HV.out.symm, rfl⟩
theorem elemW : Tryz.prog.underlying 63 = some (.slice (Tryz.prog.elem 63)) := by kernel_rfl
theorem sizeW (w : World) : (sizeOf (Tryz.prog.elem 63)).run Tryz.prog w = .ok 2 w := by kernel_rfl
theorem cut_h (a : Option Addr) (n cap q : Nat) (hs : ∀ x, a = some x → x.spot = none) (hc : q ≤ cap) (w : World) : (Instr.sliceAt 63 (.slice a n cap) none (some (.int .i64 q)) none).run Tryz.prog w = .ok (.slice a q cap) w := by
  rw [run_sliceAt_slice w _ _ _ _ _ elemW, Go.run_slice_h w _ _ _ _ elemW _ _ (by omega) (by omega), sizeW]
  simp only [Result.andThen, sliced]
  rw [Nat.sub_zero, show ((q : Int)).toNat = q by omega]
  cases a with
  | none => simp
  | some x =>
    obtain ⟨b, off, spot⟩ := x
    have := hs _ rfl
    simp only at this; subst this
    rw [Nat.zero_mul, Option.map_some, Addr.add_mid, Nat.add_zero, ite_self, Nat.sub_zero]
end Go.Proofs.YtmgeecdgebemdaaGreatDoor.wrt

/- Chapter 15: what the program's RecoveryWrites, Recovered, IsClean and DirtyVars are to give: the shapes of their contracts. -/
namespace Go.Proofs.YtmgeecdgebemdaaGreatDoor.rcv
open Go Go.ChangeShapes Go.WideShapes Go.ChangeAt Go.RowKit Go.Proofs.YtmgeecdgebemdaaGreatDoor.row Go.Proofs.YtmgeecdgebemdaaGreatDoor.val Go.Proofs.YtmgeecdgebemdaaGreatDoor.expr Go.Proofs.YtmgeecdgebemdaaGreatDoor.ctl Go.Proofs.YtmgeecdgebemdaaGreatDoor.grow Go.Proofs.YtmgeecdgebemdaaGreatDoor.wrt
/-- A row of writes in new memory. -/
def NewWs (w : World) (Q : List Wt) (e : Ending) (w' : World) : Prop :=
  ∃ a n c, e = .returned (.slice a n c) ∧ w'.ownsRow w.heap.size 100 2 (.slice a n c) n (writesC Q) ∧ Below w.heap.size w w'
/-- What IsClean must say. -/
def cleanB (L : List Int) : Bool := decide (L.length = 49) && (wOk (L.getD 8 0) && decide (wC (L.getD 8 0) = 0))
abbrev RwC : Prop := ∀ (w : World) (a : Option Addr) (n cap : Nat) (L : List Int) (_ : (n : Int) ≤ 1048576) (_ : n ≤ cap) (_ : Row w a n L) (_ : -9223372036854775808 ≤ L.getD 8 0 ∧ L.getD 8 0 ≤ 9223372036854775807) (Q : List Wt) (_ : RecIs L Q),
    Calls Tryz.prog 57 #[.slice a n cap] w (NewWs w Q)
abbrev RcC : Prop := ∀ (w : World) (a : Option Addr) (n cap : Nat) (L : List Int) (_ : (n : Int) ≤ 1048576) (_ : n ≤ cap) (_ : Row w a n L) (_ : -9223372036854775808 ≤ L.getD 8 0 ∧ L.getD 8 0 ≤ 9223372036854775807) (Q : List Wt) (_ : RecIs L Q),
    Calls Tryz.prog 45 #[.slice a n cap] w (NewInts w (putAll L Q))
end Go.Proofs.YtmgeecdgebemdaaGreatDoor.rcv

/- Chapter 10 of the model: WriteWord, ApplyWrites; new rows; nothing that was there is written. -/
namespace Go.Proofs.YtmgeecdgebemdaaGreatDoor.wrt
open Go Go.ChangeShapes Go.WideShapes Go.ChangeAt Go.RowKit Go.Proofs.YtmgeecdgebemdaaGreatDoor.row Go.Proofs.YtmgeecdgebemdaaGreatDoor.val Go.Proofs.YtmgeecdgebemdaaGreatDoor.expr Go.Proofs.YtmgeecdgebemdaaGreatDoor.grow
theorem made_at (w : World) (k B : Nat) (hk : w.heap.size = k) (hB : B ≤ k) (e : TypeId) : (w.alloc (.cells #[] e)).ownsRow B e 1 (.slice (some ⟨k, 0, none⟩) 0 0) 0 [] := by
  subst hk; exact World.ownsRow_made w #[] 0 hB (Nat.zero_le _) rfl
theorem own_slice {w : World} {B : Nat} {ty : TypeId} {v : Value} {n : Nat} {xs : List Value} (h : w.ownsRow B ty 1 v n xs) : ∃ ad cap, v = .slice ad n cap := by
  rcases h.2 with ⟨e, e0⟩ | ⟨g, c, _, e, _⟩
  · exact ⟨_, _, by rw [e, e0]⟩
  · exact ⟨_, _, e⟩
theorem stored_put {w : World} {B g n c m : Nat} {P : List Int} {v : Int} (h : w.ownsRow B 3 1 (.slice (some ⟨g, 0, none⟩) n c) n (ivs P)) : (w.setCell ⟨g, m, none⟩ (.int .i64 v)).ownsRow B 3 1 (.slice (some ⟨g, 0, none⟩) n c) n (ivs (P.set m v)) := by
  have := (h.stored m (.int .i64 v)).1
  rw [ivs_set] at this; exact this
theorem word_in {p : Int} {n m : Nat} (hp : p = m) (hm : m < n) : (decide (0 ≤ p) && decide (p ≤ (n : Int) - 1)) = true := by simp; omega
theorem word_out {p : Int} {n : Nat} (h : ¬ (0 ≤ p ∧ p < n)) : (decide (0 ≤ p) && decide (p ≤ (n : Int) - 1)) = false := by
  rw [← Bool.not_eq_true, Bool.and_eq_true, decide_eq_true_eq, decide_eq_true_eq]; omega
end Go.Proofs.YtmgeecdgebemdaaGreatDoor.wrt

/- Chapter 10 of the model: ApplyWrites; a new row; nothing that was there is written. -/
namespace Go.Proofs.YtmgeecdgebemdaaGreatDoor.wrt
open Go Go.ChangeShapes Go.WideShapes Go.ChangeAt Go.RowKit Go.Proofs.YtmgeecdgebemdaaGreatDoor.row Go.Proofs.YtmgeecdgebemdaaGreatDoor.val Go.Proofs.YtmgeecdgebemdaaGreatDoor.expr Go.Proofs.YtmgeecdgebemdaaGreatDoor.grow
set_option maxHeartbeats 2000000 in
set_option maxRecDepth 100000 in
theorem spec_apply (w : World) (b off n cap : Nat) (M : List Int) (lb : Option Addr) (k kc : Nat) (L : List Wt) (c : Int) (hn : (n : Int) ≤ 1048576) (hk : (k : Int) ≤ 1048576) (hM : Row w (some ⟨b, off, none⟩) n M) (hL : WriteRow w lb k L) :
    Calls Tryz.prog 124 #[.slice (some ⟨b, off, none⟩) n cap, .slice lb k kc, .int .i64 c] w (NewInts w (appW M L c)) := by
  obtain ⟨i0, hi, hz0, hz1, hz2⟩ := info_parts infoInt
  have hml := hM.1
  have HL1 := Lib.hid (show (ivs M).length = n * 1 by rw [ivs_length, hml]; omega)
  have HN := Lib.hid (show ∀ j u, (ivs M)[j]? = some u → (w.alloc (.cells #[] 3)).cell? ((⟨b, off, none⟩ : Addr).add j) = some u from fun j u hj => by rw [Addr.add_mid]; exact row_range (hM.below (below_new _ _)) j u hj)
  have H1 := Lib.hid (ivs_one M)
  have HL := Lib.hid hL
  obtain ⟨q, hq⟩ : ∃ q, cntW c k = q := ⟨_, rfl⟩
  have HQ := Lib.hid (show L.take q = L.take c.toNat by rw [← hq, ← hL.1]; exact take_cnt L c)
  have HI := Lib.hid (show q ≤ k ∧ (∀ j : Nat, j < q → (j : Int) < c) ∧ (∀ j : Nat, j ≤ q → ¬ j < q → j < k → ¬ (j : Int) < c) by unfold cntW at hq; refine ⟨by omega, fun j hj => by omega, fun j h1 h2 h3 => by omega⟩)
  clear hM hL hq
  go_enter Tryz.func124, Tryz.ntmps124
  go_wp2_with (at_builtin; refine wpList_append_own _ rfl _ _ 27 rfl w.heap.size 3 i0 (.int .i64 0) 1 8 Tryz.underlying27 hi hz0 hz1 hz2 rfl (by decide) _ _ _ rfl (made_at _ w.heap.size w.heap.size rfl (Nat.le_refl _) _) ⟨b, off, none⟩ n cap (ivs M) rfl HL1.out HN.out H1.out (by unfold maxLen; omega) (by omega) (by simp) ?_; intro v' w1 hown hgrow _; refine Hid.out ?_)
  have hb := (below_new w (.cells #[] 3)).grown hgrow (by simp) (fun k hk => by cases hk; exact Nat.le_refl _)
  rw [Nat.zero_add, List.nil_append] at hown
  obtain ⟨ad, cc, rfl⟩ := own_slice hown
  have HF := Lib.hid (And.intro hown hb)
  clear hown hgrow hb
  refine Lib.hid ?_
  go_wp2
  go_loopw [8] (fun i wr => ∃ j : Nat, j ≤ q ∧ i = .int .i64 j ∧ wr.ownsRow w.heap.size 3 1 (.slice ad n cc) n (ivs (putAll M (L.take j))) ∧ Below w.heap.size w wr) (fun i _ => q - (intOf i).toNat)
  case atStart => exact ⟨0, Nat.zero_le _, rfl, HF.out.1, HF.out.2⟩
  case round =>
    obtain ⟨j, hj, rfl, hown, hbel⟩ := hrel
    by_cases hlt : j < q
    · have hI1 : (j : Int) < k := by have := HI.out.1; omega
      have hI2 : (j : Int) < c := HI.out.2.1 j hlt
      obtain ⟨b0, off0, s, rfl, hlb, hs, hr0⟩ := HL.out.2 j (by omega)
      have hr := range_below hr0 hlb hbel
      have HS := Lib.hid (putAll_snoc (M := M) hs)
      obtain ⟨p, v⟩ := s
      have r0 : wr.drew.cell? ⟨b0, off0 + j * 2, none⟩ = some (.int .i64 p) ∧ wr.drew.cell? ⟨b0, off0 + j * 2 + 1, none⟩ = some (.int .i64 v) := range2 hr
      have c0 : wr.cell? ⟨b0, off0 + j * 2, none⟩ = some (.int .i64 p) := r0.1
      have hpl : (putAll M (L.take j)).length = n := by rw [putAll_len]; exact hml
      have HR := Lib.hid (And.intro hown hbel)
      clear hr hr0 hown hbel hs
      by_cases hin : 0 ≤ p ∧ p < n
      · obtain ⟨m, rfl⟩ : ∃ m : Nat, p = m := ⟨p.toNat, by omega⟩
        have hmn : m < n := by omega
        have HD := Lib.hid (word_in (p := (m : Int)) rfl hmn)
        have HP := Lib.hid (put1_in (M := putAll M (L.take j)) (x := ⟨m, v⟩) rfl (by rw [hpl]; exact hmn))
        obtain ⟨g, X, rfl, hg1, hg2, hX, hfz⟩ := own_store HR.out.1 hmn
        have hX2 : wr.drew.cell? ⟨g, m, none⟩ = some (.int .i64 X) := hX
        have hfz2 : wr.drew.frozen? ⟨g, m, none⟩ = false := hfz
        have hmI : (m : Int) < n := by omega
        have hne : some b0 ≠ some g := fun e => by have := Option.some.inj e; omega
        have r1 : ∀ u : Value, (wr.setCell ⟨g, m, none⟩ u).drew.cell? ⟨b0, off0 + j * 2, none⟩ = some (.int .i64 m) ∧ (wr.setCell ⟨g, m, none⟩ u).drew.cell? ⟨b0, off0 + j * 2 + 1, none⟩ = some (.int .i64 v) := fun u => ⟨(grown_setCell wr g m u).cell r0.1 hne, (grown_setCell wr g m u).cell r0.2 hne⟩
        clear hin hpl
        go_wp2_with (go_at_call 63; refine (in_any _ _ _ true HD.out _).mono ?_; rintro e w2 ⟨rfl, rfl⟩)
        go_region_held3 (fun w' => w'.cell? ⟨b0, off0 + j * 2, none⟩ = some (.int .i64 m) ∧ w'.cell? ⟨b0, off0 + j * 2 + 1, none⟩ = some (.int .i64 v)) (first | (exact r0) | (exact r1 _)) (fail)
        go_wp2
        go_roundw
        case rel => exact ⟨j + 1, by omega, by go_num, by rw [HS.out, HP.out]; exact stored_put HR.out.1, Below.drew (HR.out.2.grown (grown_setCell _ g m _) HR.out.2.size (fun j hj => by cases hj; exact hg1))⟩
        case measure => simp [intOf]; omega
      · have HD := Lib.hid (word_out (p := p) (n := n) hin)
        have HP := Lib.hid (put1_out (M := putAll M (L.take j)) (x := ⟨p, v⟩) (by rw [hpl]; exact hin))
        clear hin hpl
        go_wp2_with (go_at_call 63; refine (in_any _ _ _ false HD.out _).mono ?_; rintro e w2 ⟨rfl, rfl⟩)
        go_roundw
        case rel => exact ⟨j + 1, by omega, by go_num, by rw [HS.out, HP.out]; exact HR.out.1, HR.out.2⟩
        case measure => simp [intOf]; omega
    · have HB := Lib.hid (And.intro hown hbel)
      clear hown hbel
      obtain rfl : j = q := by omega
      have HFIN := Lib.hid (show NewInts w (appW M L c) (.returned (.slice ad n cc)) wr from ⟨_, _, _, rfl, by show wr.ownsRow _ _ _ _ _ (ivs (putAll M (L.take c.toNat))); rw [← HQ.out]; exact HB.out.1, HB.out.2⟩)
      by_cases hjk : (j : Int) < k
      · have hI : ¬ (j : Int) < c := by have := HI.out.2.2 j (Nat.le_refl _) (by omega) (by omega); omega
        go_wp2
        go_ret
        exact HFIN.out
      · go_wp2
        go_ret
        exact HFIN.out
end Go.Proofs.YtmgeecdgebemdaaGreatDoor.wrt

/- Chapter 15 of the model: RecoveryWrites, Recovered, IsClean; nothing that was there is written. -/
namespace Go.Proofs.YtmgeecdgebemdaaGreatDoor.rcv
open Go Go.ChangeShapes Go.WideShapes Go.ChangeAt Go.RowKit Go.Proofs.YtmgeecdgebemdaaGreatDoor.row Go.Proofs.YtmgeecdgebemdaaGreatDoor.val Go.Proofs.YtmgeecdgebemdaaGreatDoor.expr Go.Proofs.YtmgeecdgebemdaaGreatDoor.stm Go.Proofs.YtmgeecdgebemdaaGreatDoor.ctl Go.Proofs.YtmgeecdgebemdaaGreatDoor.grow Go.Proofs.YtmgeecdgebemdaaGreatDoor.wrt
theorem rword {w : World} {b off n j : Nat} {L : List Int} (h : Row w (some ⟨b, off, none⟩) n L) (hj : j < n) : w.cell? ⟨b, off + j, none⟩ = some (.int .i64 (L.getD j 0)) := by
  obtain ⟨b', off', x, e, _, hx, hc⟩ := h.2 j hj
  cases e
  rw [hc, List.getD_eq_getElem?_getD, hx]; rfl
theorem own_slc {w : World} {B m : Nat} {v : Value} {xs : List Value} (h : w.ownsRow B 100 2 v m xs) : ∃ g c, v = .slice g m c := by
  rcases h.2 with ⟨e, e0⟩ | ⟨g, c, cur, e, _⟩
  · exact ⟨none, 0, by rw [e, e0]⟩
  · exact ⟨_, _, e⟩
theorem wsC_snoc (L : List Wt) (s : Wt) : writesC L ++ [.int .i64 s.p, .int .i64 s.v] = writesC (L ++ [s]) := by simp [writesC, gcs, writeC]
set_option maxHeartbeats 4000000 in
set_option maxRecDepth 100000 in
theorem spec_recw (w : World) (a : Option Addr) (n cap : Nat) (L : List Int) (hn : (n : Int) ≤ 1048576) (h : Row w a n L) (Q : List Wt) (hQ : RecIs L Q) :
    Calls Tryz.prog 72 #[.slice a n cap] w (NewWs w Q) := by
  obtain ⟨i0, hi, hz0, hz1, hz2⟩ := info_parts infoWrite
  have hl := h.1
  by_cases h49 : n = 49
  case neg =>
    have HQ := Lib.hid (hQ.none (fun hr => h49 (by rw [← hl]; exact hr.1)))
    have hq : ¬ (n : Int) = 49 := by omega
    clear h hl h49 hQ
    go_enter Tryz.func72, Tryz.ntmps72
    go_wp2
    go_ret
    exact ⟨_, _, _, rfl, by rw [HQ.out]; exact World.ownsRow_made w #[] 0 (Nat.le_refl _) (by decide) rfl, below_new _ _⟩
  subst h49
  obtain ⟨b, off, x, rfl, hlb, hx, hc8⟩ := h.2 8 (by decide)
  have hX : L.getD 8 0 = x := by rw [List.getD_eq_getElem?_getD, hx]; rfl
  have HW : Hid (∀ wr, Below w.heap.size w wr → ∀ j, j < 49 → wr.cell? ⟨b, off + j, none⟩ = some (.int .i64 (L.getD j 0))) := fun wr hb j hj => rword (h.below hb) hj
  have q8 : (w.alloc (.cells #[] 100)).cell? ⟨b, off + 8, none⟩ = some (.int .i64 x) := by rw [← hX]; exact HW.out _ (below_new _ _) 8 (by decide)
  cases ho : wOk x
  · have HU := Lib.hid (un_no ho)
    have HQ := Lib.hid (hQ.none (fun hr => by have := hr.2.1; rw [hX, ho] at this; cases this))
    clear hx hX ho h hl hQ hc8
    go_enter Tryz.func72, Tryz.ntmps72
    go_wp2_with (go_at_call 30; refine (spec_unpack_is x _ _ _ HU.out _).mono ?_; rintro e w3 ⟨rfl, rfl⟩)
    go_loopw [3, 7, 8] (fun v i _ wr => i = .int .i64 (-2) ∧ v = .slice (some ⟨w.heap.size, 0, none⟩) 0 0 ∧ Hid (wr.ownsRow w.heap.size 100 2 (.slice (some ⟨w.heap.size, 0, none⟩) 0 0) 0 [] ∧ Below w.heap.size w wr)) (fun _ _ _ _ => 0)
    case atStart => exact ⟨rfl, rfl, World.ownsRow_made w #[] 0 (Nat.le_refl _) (by decide) rfl, below_new _ _⟩
    case round =>
      obtain ⟨rfl, rfl, HO⟩ := hrel
      go_wp2
      go_ret
      exact ⟨_, _, _, rfl, by rw [HQ.out]; exact HO.out.1, HO.out.2⟩
  · obtain ⟨t, c, nn, ht, hc, hnn, e1, e2, e3⟩ := un_yes ho
    have HU := Lib.hid (show unT x = t ∧ unC x = c ∧ unN x = nn from ⟨e1, e2, e3⟩)
    have hC : wC (L.getD 8 0) = c := by rw [hX, ← e2]; simp [unC, ho]
    have hT : wT (L.getD 8 0) = t := by rw [hX, ← e1]; simp [unT, ho]
    have hN : wN (L.getD 8 0) = nn := by rw [hX, ← e3]; simp [unN, ho]
    have HBAD := Lib.hid (show ∀ i, i < c → varOk (L.getD (9 + 2 * i) 0) = false → Q = [] from fun i hi hv => hQ.none (fun hr => by have h9 := hr.2.2.2 i (by rw [hC]; omega); rw [hv] at h9; cases h9))
    have HZERO := Lib.hid (show c = 0 → Q = [] from fun h0 => hQ.none (fun hr => by have h9 := hr.2.2.1; rw [hC] at h9; omega))
    obtain ⟨PK, hPK⟩ : ∃ PK, packV (t : Int) 0 nn = PK := ⟨_, rfl⟩
    have HALL := Lib.hid (show 0 < c → (∀ i, i < c → varOk (L.getD (9 + 2 * i) 0) = true) → Q = recTop L c c ++ [⟨8, PK⟩] from fun h0 ha => by
      rw [hQ.some ⟨hl, by rw [hX]; exact ho, by rw [hC]; omega, fun i hi => ha i (by rw [hC] at hi; omega)⟩, hC, hT, hN, hPK, recTop_all]
      simp)
    have HPK := Lib.hid hPK
    clear hx hX ho h hl hQ hc8 e1 e2 e3 hC hT hN hPK
    go_enter Tryz.func72, Tryz.ntmps72
    go_wp2_with (go_at_call 30; refine (spec_unpack_is x _ _ _ HU.out _).mono ?_; rintro e w3 ⟨rfl, rfl⟩)
    go_loopw [3, 7, 8] (fun v i _ wr => ∃ (r m : Nat) (q : Int), r ≤ c ∧ q = r - 1 ∧ i = .int .i64 q ∧ m + r = c ∧ Hid (wr.ownsRow w.heap.size 100 2 v m (writesC (recTop L c (c - r))) ∧ Below w.heap.size w wr) ∧ Hid (∀ i, r ≤ i → i < c → varOk (L.getD (9 + 2 * i) 0) = true)) (fun _ i _ _ => (intOf i + 1).toNat)
    case atStart => exact ⟨c, 0, c - 1, Nat.le_refl _, rfl, by go_num, by omega, ⟨by rw [Nat.sub_self]; exact World.ownsRow_made w #[] 0 (Nat.le_refl _) (by decide) rfl, below_new _ _⟩, fun i h1 h2 => by omega⟩
    case round =>
      obtain ⟨r, m, q, hr, hq, rfl, hm, HO, HV⟩ := hrel
      have hWr := HO.out.2.size
      rcases Nat.eq_zero_or_pos r with hr0 | hr0
      · subst hr0
        obtain rfl : q = -1 := by omega
        clear hq
        obtain rfl : m = c := by omega
        have HM := Lib.hid (show m ≤ 8 from hc)
        by_cases hc0 : m = 0
        · have hc1 : (m : Int) ≤ 0 := by omega
          obtain ⟨g, cp, rfl⟩ := own_slc HO.out.1
          have H9 := Lib.hid (show ∃ q, q = writesC Q ∧ wr.ownsRow w.heap.size 100 2 (.slice g m cp) m q from ⟨_, rfl, by rw [HZERO.out hc0]; have h9 := HO.out.1; rw [show recTop L m (m - 0) = [] by subst hc0; rfl] at h9; exact h9⟩)
          clear hc0
          go_wp2
          go_ret
          obtain ⟨q, rfl, h9⟩ := H9.out
          exact ⟨_, _, _, rfl, h9, HO.out.2⟩
        · have hc1 : ¬ (m : Int) ≤ 0 := by omega
          have HQ := Lib.hid (HALL.out (by omega) (fun i hi => HV.out i (Nat.zero_le _) hi))
          clear hc0
          go_wp2_with (first
            | (go_at_call 53; refine (spec_pack _ _ _ _).mono ?_; rw [HPK.out]; rintro e w8 ⟨rfl, rfl⟩)
            | (at_builtin; refine wpList_append_own _ rfl _ _ 63 rfl w.heap.size 100 i0 _ 2 16 Tryz.underlying63 hi hz0 hz1 hz2 rfl (by decide) _ _ _ rfl (HO.out.1.alloc _) ⟨wr.heap.size, 0, none⟩ 1 1 [.int .i64 8, .int .i64 PK] rfl rfl (World.news_of_block (cs := #[.int .i64 8, .int .i64 PK]) (t := 100) (fr := (0, 0)) (heap_alloc_new wr _)) (by simp [Value.oneCell']) (by unfold maxLen; have := HM.out; omega) (by have := HM.out; omega) (by simp; omega) ?_; intro v9 w9 hown9 hgrow9 _; refine Hid.out ?_))
          have h7 : w9.ownsRow w.heap.size 100 2 v9 (m + 1) (writesC Q) := by
            rw [HQ.out, ← wsC_snoc]; exact hown9
          obtain ⟨g7, c7, rfl⟩ := own_slc h7
          have H7 := Lib.hid (show ∃ q, q = writesC Q ∧ w9.ownsRow w.heap.size 100 2 (.slice g7 (m + 1) c7) (m + 1) q from ⟨_, rfl, h7⟩)
          have HB := Lib.hid (show Below w.heap.size w w9 from (HO.out.2.alloc hWr _).grown hgrow9 (by simp; omega) (fun j hj => (HO.out.1.lt j hj).1))
          clear h7 hown9 hgrow9
          refine Lib.hid ?_
          go_wp2
          go_ret
          obtain ⟨q, rfl, h9⟩ := H7.out
          exact ⟨_, _, _, rfl, h9, HB.out⟩
      · obtain ⟨p, rfl⟩ : ∃ p, r = p + 1 := ⟨r - 1, by omega⟩
        obtain rfl : q = (p : Int) := by omega
        clear hq
        obtain ⟨x9, hx9⟩ : ∃ x9, L.getD (9 + 2 * p) 0 = x9 := ⟨_, rfl⟩
        obtain ⟨y9, hy9⟩ : ∃ y9, L.getD (10 + 2 * p) 0 = y9 := ⟨_, rfl⟩
        obtain ⟨s, hs⟩ : ∃ s : Nat, s = 9 + 2 * p := ⟨_, rfl⟩
        have hpk : (9 : Int) + 2 * (p : Int) = (s : Int) := by omega
        have hsb : (s : Int) ≤ 23 := by omega
        have d0 : wr.cell? ⟨b, off + s, none⟩ = some (.int .i64 x9) := by
          have h9 := HW.out _ HO.out.2 (9 + 2 * p) (by omega)
          rw [hx9, ← hs] at h9
          exact h9
        have hpI : (p : Int) ≤ 7 := by omega
        have d1 : wr.cell? ⟨b, off + (s + 1), none⟩ = some (.int .i64 y9) := by
          have h9 := HW.out _ HO.out.2 (10 + 2 * p) (by omega)
          rw [hy9, show 10 + 2 * p = s + 1 by omega] at h9
          exact h9
        have hp0 : (0 : Int) ≤ p := by omega
        have HN := Lib.hid (And.intro hx9 (And.intro hy9 hs))
        have HM := Lib.hid (show m ≤ 8 ∧ m + (p + 1) = c from ⟨by omega, hm⟩)
        have HRR := Lib.hid hr
        clear hx9 hy9 hs hm hr q8 hr0
        cases hv : varOk x9
        · have HIN := Lib.hid (show (decide (0 ≤ x9) && decide (x9 ≤ 7)) = false from hv)
          have HQ := Lib.hid (HBAD.out p (by have := HRR.out; omega) (by rw [HN.out.1]; exact hv))
          clear hv
          go_wp2_with (go_at_call 63; (with_reducible refine (in_any _ 0 _ _ HIN.out _).mono ?_); rintro e w4 ⟨rfl, rfl⟩)
          go_ret
          exact ⟨_, _, _, rfl, by rw [HQ.out]; exact World.ownsRow_made wr #[] 0 hWr (by decide) rfl, below_then HO.out.2 (below_new _ _)⟩
        · have HIN := Lib.hid (show (decide (0 ≤ x9) && decide (x9 ≤ 7)) = true from hv)
          have HV2 := Lib.hid (show ∀ i, p ≤ i → i < c → varOk (L.getD (9 + 2 * i) 0) = true from fun i h1 h2 => by
            rcases (show p + 1 ≤ i ∨ i = p by omega) with h3 | rfl
            · exact HV.out i h3 h2
            · rw [HN.out.1]; exact hv)
          have HE := Lib.hid (show recTop L c (c - p) = recTop L c (c - (p + 1)) ++ [⟨x9, y9⟩] from by rw [recTop_next L (by have := HRR.out; omega), HN.out.1, HN.out.2.1])
          clear hv
          go_wp2_with (first
            | (go_at_call 63; (with_reducible refine (in_any _ 0 _ _ HIN.out _).mono ?_); rintro e w4 ⟨rfl, rfl⟩)
            | (at_builtin; refine wpList_append_own _ rfl _ _ 63 rfl w.heap.size 100 i0 _ 2 16 Tryz.underlying63 hi hz0 hz1 hz2 rfl (by decide) _ _ _ rfl (HO.out.1.alloc _) ⟨wr.heap.size, 0, none⟩ 1 1 [.int .i64 x9, .int .i64 y9] rfl rfl (World.news_of_block (cs := #[.int .i64 x9, .int .i64 y9]) (t := 100) (fr := (0, 0)) (heap_alloc_new wr _)) (by simp [Value.oneCell']) (by unfold maxLen; have := HM.out; omega) (by have := HM.out; omega) (by simp; omega) ?_; intro v9 w9 hown9 hgrow9 _; refine Hid.out ?_))
          have h7 : w9.ownsRow w.heap.size 100 2 v9 (m + 1) (writesC (recTop L c (c - p))) := by
            rw [HE.out, ← wsC_snoc]; exact hown9
          have H7 := Lib.hid (And.intro h7 (show Below w.heap.size w w9 from (HO.out.2.alloc hWr _).grown hgrow9 (by simp; omega) (fun j hj => (HO.out.1.lt j hj).1)))
          clear h7 hown9 hgrow9
          refine Lib.hid ?_
          go_wp2
          go_roundw
          case rel => exact ⟨p, m + 1, p - 1, by have := HRR.out; omega, rfl, by go_num, by have := HM.out; omega, H7.out, HV2.out⟩
          case measure => simp [intOf] <;> omega
/-- A row of writes that somebody owns reads as the list. -/
theorem wrow_own {w : World} {B : Nat} {a : Option Addr} {n c : Nat} {L : List Wt} (h : w.ownsRow B 100 2 (.slice a n c) n (writesC L)) (hl : L.length = n) : WriteRow w a n L := by
  refine ⟨hl, fun k hk => ?_⟩
  obtain ⟨g, c', e, _, hlt⟩ := h.form (by omega)
  cases e
  refine ⟨g, 0, L[k]'(by omega), rfl, hlt, by simp [show k < L.length by omega], fun j v hv => ?_⟩
  have hj : j < 2 := by have := (List.getElem?_eq_some_iff.1 hv).1; rw [writeC_len] at this; exact this
  have h1 := h.cells (g := g) rfl (k * 2 + j) v (by rw [gcs_at writeC_len (s := L[k]'(by omega)) (by simp [show k < L.length by omega]) j hj]; exact hv)
  rw [Addr.add_mid] at h1
  rw [show 0 + k * 2 + j = 0 + (k * 2 + j) by omega]
  exact h1
theorem RecIs.len {W : List Int} {Q : List Wt} (h : RecIs W Q) : Q.length ≤ 9 := by
  rcases h with ⟨h1, rfl⟩ | ⟨_, rfl⟩
  · have := (ctlOk_iff _ _ _).1 h1.2.1
    have hl : (recEnt W (wC (W.getD 8 0)).toNat).length = (wC (W.getD 8 0)).toNat := by unfold recEnt; rw [List.length_map, List.length_reverse, List.length_range]
    rw [List.length_append, hl]
    show _ + 1 ≤ 9
    omega
  · exact Nat.zero_le _
theorem app_all (L : List Int) (Q : List Wt) {n : Nat} (h : Q.length = n) : appW L Q (n : Int) = putAll L Q := by
  unfold appW; rw [show ((n : Int)).toNat = n by omega, List.take_of_length_le (by omega)]
set_option maxRecDepth 100000 in
set_option maxHeartbeats 1000000 in
theorem spec_recovered (w : World) (b off n cap : Nat) (L : List Int) (hn : (n : Int) ≤ 1048576) (h : Row w (some ⟨b, off, none⟩) n L) (Q : List Wt) (hQ : RecIs L Q) :
    Calls Tryz.prog 75 #[.slice (some ⟨b, off, none⟩) n cap] w (NewInts w (putAll L Q)) := by
  have H := Lib.hid h
  have HQ := Lib.hid hQ
  clear h hQ
  go_enter Tryz.func75, Tryz.ntmps75
  go_wp2_with (go_at_call 72; (with_reducible refine (spec_recw _ _ n cap L hn H.out Q HQ.out).mono ?_); rintro e w2 ⟨q, nq, cq, rfl, hq, hb2⟩; refine Hid.out ?_)
  have hql : Q.length = nq := by have h9 := hq.1; rw [writesC_len] at h9; omega
  have hq9 := HQ.out.len
  have HC := Lib.hid (spec_apply w2 b off n cap L q nq cq Q (nq : Int) hn (by omega) (H.out.below hb2) (wrow_own hq hql))
  have HE := Lib.hid (app_all L Q hql)
  have HB := Lib.hid hb2
  clear hq hb2 hql hq9
  refine Lib.hid ?_
  go_wp2_with (go_at_call 124; (with_reducible refine HC.out.mono ?_); rintro e w3 ⟨a3, n3, c3, rfl, h3, hb3⟩; refine Hid.out ?_)
  have HF := Lib.hid (And.intro (h3.mono HB.out.size) (below_then HB.out hb3))
  clear h3 hb3
  refine Lib.hid ?_
  go_wp2
  go_ret
  exact ⟨_, _, _, rfl, by rw [← HE.out]; exact HF.out.1, HF.out.2⟩
end Go.Proofs.YtmgeecdgebemdaaGreatDoor.rcv
