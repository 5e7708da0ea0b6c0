/- Several texts in one: MicR WtR TrcV CstT TrcP. -/
import Derived.Test.YtmgeecdgebemdaaGreatDoorGSig16
import Derived.Test.YtmgeecdgebemdaaGreatDoorGSig24
import Derived.Test.YtmgeecdgebemdaaGreatDoorGSig0
import Derived.Test.YtmgeecdgebemdaaGreatDoorGSig1
import Derived.Deep.Slices
import Derived.Deep.RegionHeld3
import Derived.Test.YtmgeecdgebemdaaGreatDoorRows
import Derived.Test.YtmgeecdgebemdaaGreatDoorGSig6
import Derived.Test.YtmgeecdgebemdaaGreatDoorGSig11
import Derived.Test.YtmgeecdgebemdaaGreatDoorGSig4
import Derived.OpenShut
import Derived.ChangeSame
import Derived.Deep.Strs
import Derived.Laws.Rows
import Derived.KernelRfl

/- The struct Micro as plain data, and rows of it: the law's own copy, size, comparison, marks of such a value and of such a row; what a law's argument of these types is. -/
namespace Go.Proofs.YtmgeecdgebemdaaGreatDoor.trc
open Go Go.ChangeShapes Go.WideShapes Go.ChangeAt Go.RowKit Go.Joins Go.Deep Go.Proofs.YtmgeecdgebemdaaGreatDoor.row Go.Proofs.YtmgeecdgebemdaaGreatDoor.val Go.Proofs.YtmgeecdgebemdaaGreatDoor.expr Go.Proofs.YtmgeecdgebemdaaGreatDoor.grow

/-- The cells of one, its value, the cells of a list of them. -/
def microC (s : Mic) : List Value := [.int .i64 s.c, .int .i64 s.a, .int .i64 s.v]
theorem microC_len (s : Mic) : (microC s).length = 3 := rfl
abbrev microV (s : Mic) : Value := .agg #[.int .i64 s.c, .int .i64 s.a, .int .i64 s.v]
abbrev microsC (L : List Mic) : List Value := gcs microC L
theorem microsC_len (L : List Mic) : (microsC L).length = L.length * 3 := gcs_len microC_len L
/-- The slice reads as this list. -/
abbrev MicroRow (w : World) (a : Option Addr) (n : Nat) (L : List Mic) : Prop := GRow microC 3 w a n L
/-- The call returns this value; nothing that was there is written. -/
def BelMicro (w : World) (s : Mic) (e : Ending) (w' : World) : Prop := e = .returned (microV s) ∧ Below w.heap.size w w'
theorem drew_below {w w' : World} (h : Below w.drew.heap.size w.drew w') : Below w.heap.size w w' := (Below.drew (Below.refl _ w)).trans h
set_option maxRecDepth 100000 in
theorem eqMicro_same (s : Mic) (w : World) : Calls Tryz.prog 155 #[microV s, microV s] w (BelB w true) := by
  go_enter Tryz.func155, Tryz.ntmps155
  go_wp2
  go_ret
  exact ⟨rfl, ((Below.refl _ w).alloc (Nat.le_refl _) _).alloc (by simp) _⟩
/-- A copy of the row in new memory. -/
def MadeMicros (w : World) (n : Nat) (L : List Mic) (e : Ending) (w' : World) : Prop :=
  e = .returned (.slice (some ⟨w.heap.size, 0, none⟩) n n) ∧ Box w.heap.size (microsC L).toArray 98 w' ∧ Below w.heap.size w w'
theorem zeros_micro : ∀ i, i < (Value.agg #[.int .i64 0, .int .i64 0, .int .i64 0]).cells.size → (Value.agg #[.int .i64 0, .int .i64 0, .int .i64 0]).cells[i]! = .int .i64 0 := by
  intro i hi
  have : i < 3 := hi
  match i, this with
  | 0, _ => rfl
  | 1, _ => rfl
  | 2, _ => rfl
theorem infoMicro : (Tryz.prog.info? 98).map (fun i => (i.zero, i.size, i.bytes)) = some (some (.agg #[.int .i64 0, .int .i64 0, .int .i64 0]), 3, 24) := by kernel_rfl
theorem held3o {w w' : World} {g o : Nat} {x0 x1 x2 : Value} (hb : Below w.heap.size w w') (hg : g < w.heap.size)
    (h : w.cell? ⟨g, o, none⟩ = some (x0) ∧ w.cell? ⟨g, o + 1, none⟩ = some (x1) ∧ w.cell? ⟨g, o + 2, none⟩ = some (x2)) :
    w'.cell? ⟨g, o, none⟩ = some (x0) ∧ w'.cell? ⟨g, o + 1, none⟩ = some (x1) ∧ w'.cell? ⟨g, o + 2, none⟩ = some (x2) :=
  ⟨(hb.cell (p := ⟨g, o, none⟩) hg).trans h.1, (hb.cell (p := ⟨g, o + 1, none⟩) hg).trans h.2.1, (hb.cell (p := ⟨g, o + 2, none⟩) hg).trans h.2.2⟩
/-- The cells of one that lies in a row. -/
theorem range3 {w : World} {g o : Nat} {s : Mic} (h : w.rangeAt g o (microC s)) : w.cell? ⟨g, o, none⟩ = some (.int .i64 s.c) ∧ w.cell? ⟨g, o + 1, none⟩ = some (.int .i64 s.a) ∧ w.cell? ⟨g, o + 2, none⟩ = some (.int .i64 s.v) :=
  ⟨h 0 _ rfl, h 1 _ rfl, h 2 _ rfl⟩
set_option maxHeartbeats 2000000 in
set_option maxRecDepth 100000 in
theorem eqMicros_any (w : World) (a a' : Option Addr) (n cap cap' : Nat) (L : List Mic) (hn : (n : Int) ≤ 1048576) (h1 : MicroRow w a n L) (h2 : MicroRow w a' n L) :
    Calls Tryz.prog 101 #[.slice a n cap, .slice a' n cap'] w (BelB w true) := by
  have HC : Hid (∀ wr : World, Below w.heap.size w wr → ∀ k, k < n → ∃ (g o g' o' : Nat) (s : Mic), a = some ⟨g, o, none⟩ ∧ a' = some ⟨g', o', none⟩ ∧ wr.rangeAt g (o + k * 3) (microC s) ∧ wr.rangeAt g' (o' + k * 3) (microC s)) := by
    intro wr hb k hk
    obtain ⟨g, o, X, e1, _, x1, c1⟩ := (h1.below hb).2 k hk
    obtain ⟨g', o', X', e2, _, x2, c2⟩ := (h2.below hb).2 k hk
    obtain rfl : X = X' := by rw [x1] at x2; exact Option.some.inj x2
    exact ⟨g, o, g', o', X, e1, e2, c1, c2⟩
  clear h1 h2
  go_enter Tryz.func101, Tryz.ntmps101
  go_wp2
  go_loopw [5] (fun i wr => ∃ k : Nat, k ≤ n ∧ i = .int .i64 k ∧ Below w.heap.size w wr) (fun i _ => n - (intOf i).toNat)
  case atStart => exact ⟨0, Nat.zero_le _, rfl, Below.refl _ _⟩
  case round =>
    obtain ⟨k, hk, rfl, hbel⟩ := hrel
    by_cases hlt : k < n
    · obtain ⟨g, o, g', o', s, rfl, rfl, c1, c2⟩ := HC.out wr hbel k hlt
      have hI : (k : Int) < n := by omega
      have HB := Lib.hid hbel
      have hgl := range_lt c1 (show 0 < 3 by decide)
      have hgl' := range_lt c2 (show 0 < 3 by decide)
      have r0 : wr.drew.cell? ⟨g, o + k * 3, none⟩ = some (.int .i64 s.c) ∧ wr.drew.cell? ⟨g, o + k * 3 + 1, none⟩ = some (.int .i64 s.a) ∧ wr.drew.cell? ⟨g, o + k * 3 + 2, none⟩ = some (.int .i64 s.v) := range3 c1
      have t0 : wr.drew.cell? ⟨g', o' + k * 3, none⟩ = some (.int .i64 s.c) ∧ wr.drew.cell? ⟨g', o' + k * 3 + 1, none⟩ = some (.int .i64 s.a) ∧ wr.drew.cell? ⟨g', o' + k * 3 + 2, none⟩ = some (.int .i64 s.v) := range3 c2
      clear c1 c2 hbel
      go_wp2
      go_region_held3 (fun w' => (w'.cell? ⟨g, o + k * 3, none⟩ = some (.int .i64 s.c) ∧ w'.cell? ⟨g, o + k * 3 + 1, none⟩ = some (.int .i64 s.a) ∧ w'.cell? ⟨g, o + k * 3 + 2, none⟩ = some (.int .i64 s.v)) ∧ (w'.cell? ⟨g', o' + k * 3, none⟩ = some (.int .i64 s.c) ∧ w'.cell? ⟨g', o' + k * 3 + 1, none⟩ = some (.int .i64 s.a) ∧ w'.cell? ⟨g', o' + k * 3 + 2, none⟩ = some (.int .i64 s.v)))
        (first | (exact ⟨r0, t0⟩) | (exact ⟨held3o (drew_below hb2) hgl r0, held3o (drew_below hb2) hgl' t0⟩))
        (first
          | (go_at_call 155; refine (eqMicro_same s _).mono ?_; rintro e w2 ⟨rfl, hb2⟩))
      have hb3 := Lib.hid (HB.out.trans ((drew_below hb2).mono HB.out.size))
      clear hb2 r0 t0
      go_wp2
      go_roundw
      case rel => exact ⟨k + 1, by omega, by go_num, hb3.out⟩
      case measure => simp [intOf]; omega
    · have hI : ¬ (k : Int) < n := by omega
      have HB := Lib.hid hbel
      clear hbel
      go_wp2
      go_ret
      exact ⟨rfl, HB.out⟩
theorem nums_next {cs : Array Value} {k K : Int} {q : Nat} (h : Nums cs k (q * 3)) (hs : q * 3 + 3 ≤ cs.size) (hK : K = k + 3 * q) :
    Nums (setAll cs (q * 3) [.int .i64 K, .int .i64 (K + 1), .int .i64 (K + 1 + 1)]) k ((q + 1) * 3) := by
  intro j hj
  by_cases hlt : j < q * 3
  · rw [setAll_out _ _ _ _ (by left; exact hlt)]; exact h j hlt
  · obtain ⟨i, rfl⟩ : ∃ i, j = q * 3 + i := ⟨j - q * 3, by omega⟩
    rw [setAll_in _ _ _ i (by simp; omega) (by simp; omega)]
    have hi : i < 3 := by omega
    have : i = 0 ∨ i = 1 ∨ i = 2 := by omega
    rcases this with rfl | rfl | rfl <;> simp <;> omega
/-- What the marks leave. -/
def MarkMicros (w : World) (g n : Nat) (t : TypeId) (z : Nat) (k : Int) (e : Ending) (w' : World) : Prop :=
  e = .returned (.int .i64 (k + 3 * n)) ∧ w.grownBy w' (some g) ∧ ∃ cs', Box g cs' t w' ∧ cs'.size = z ∧ Nums cs' k (n * 3)
set_option maxHeartbeats 4000000 in
set_option maxRecDepth 100000 in
theorem markMicros_any (w : World) (g n cap : Nat) (cs : Array Value) (t : TypeId) (hb : Box g cs t w) (hs : n * 3 ≤ cs.size) (k : Int) (hk0 : 0 ≤ k) (hk1 : k ≤ 1000000000) (hn : n ≤ 1048576) :
    Calls Tryz.prog 102 #[.slice (some ⟨g, 0, none⟩) n cap, .int .i64 k] w (MarkMicros w g n t cs.size k) := by
  have HB := Lib.hid hb
  clear hb
  go_enter Tryz.func102, Tryz.ntmps102
  go_wp2
  go_loopw [1, 5] (fun kk i wr => ∃ (q : Nat) (K : Int) (cs' : Array Value), q ≤ n ∧ i = .int .i64 q ∧ kk = .int .i64 K ∧ K = k + 3 * q ∧ Hid (w.grownBy wr (some g) ∧ Box g cs' t wr ∧ cs'.size = cs.size ∧ Nums cs' k (q * 3))) (fun _ i _ => n - (intOf i).toNat)
  case atStart => exact ⟨0, k, cs, Nat.zero_le _, rfl, rfl, by simp, grown_refl _ _, HB.out, rfl, fun j h => absurd h (by omega)⟩
  case round =>
    obtain ⟨q, K, cs', hm, rfl, rfl, hK, HI⟩ := hrel
    by_cases hlt : q < n
    · have hI : (q : Int) < n := by omega
      have hsz : q * 3 + 3 ≤ cs'.size := by have := HI.out.2.2.1; omega
      have HSZ := Lib.hid hsz
      have cell : ∀ i, i < 3 → ∃ x, wr.cell? ⟨g, q * 3 + i, none⟩ = some x := fun i hi => ⟨cs'[q * 3 + i]'(by omega), by rw [HI.out.2.1.cell]; simp⟩
      obtain ⟨x0, c0⟩ := cell 0 (by omega)
      obtain ⟨x1, c1⟩ := cell 1 (by omega)
      obtain ⟨x2, c2⟩ := cell 2 (by omega)
      have f0 : wr.frozen? ⟨g, q * 3, none⟩ = false := HI.out.2.1.frozen _
      have f1 : wr.frozen? ⟨g, q * 3 + 1, none⟩ = false := HI.out.2.1.frozen _
      have f2 : wr.frozen? ⟨g, q * 3 + 2, none⟩ = false := HI.out.2.1.frozen _
      rw [Nat.add_zero] at c0
      have HK := Lib.hid hK
      have hK0 : 0 ≤ K := by omega
      have hK1 : K ≤ 1100000000 := by omega
      clear cell hsz hK
      go_wp2
      go_roundw
      case rel => exact ⟨q + 1, _, setAll cs' (q * 3) [.int .i64 K, .int .i64 (K + 1), .int .i64 (K + 1 + 1)], by omega, by go_num, rfl, by have := HK.out; omega,
        (grown_trans (grown_trans (grown_trans HI.out.1 (grown_setCell _ g _ _)) (grown_setCell _ g _ _)) (grown_setCell _ g _ _)),
        (((HI.out.2.1.set (q * 3) _).set (q * 3 + 1) _).set (q * 3 + 2) _),
        by rw [setAll_size]; exact HI.out.2.2.1, nums_next HI.out.2.2.2 HSZ.out HK.out⟩
      case measure => simp [intOf]; omega
    · obtain rfl : q = n := by omega
      have hI : ¬ (q : Int) < q := by omega
      go_wp2
      go_ret
      exact ⟨rfl, HI.out.1, _, HI.out.2.1, HI.out.2.2.1, HI.out.2.2.2⟩
set_option maxHeartbeats 4000000 in
set_option maxRecDepth 100000 in
theorem heldMicros_any (w : World) (g n cap : Nat) (cs : Array Value) (t : TypeId) (hb : Box g cs t w) (k : Int) (hN : Nums cs k (n * 3)) (hk0 : 0 ≤ k) (hk1 : k ≤ 1000000000) (hn : n ≤ 1048576) :
    Calls Tryz.prog 103 #[.slice (some ⟨g, 0, none⟩) n cap, .int .i64 k] w fun e w' => e = .returned (.int .i64 (k + 3 * n)) ∧ w' = w := by
  have HB := Lib.hid (And.intro hb hN)
  clear hb hN
  go_enter Tryz.func103, Tryz.ntmps103
  go_wp2
  go_loopw [1, 5] (fun kk i wr => ∃ (q : Nat) (K : Int), q ≤ n ∧ i = .int .i64 q ∧ kk = .int .i64 K ∧ K = k + 3 * q ∧ wr = w) (fun _ i _ => n - (intOf i).toNat)
  case atStart => exact ⟨0, k, Nat.zero_le _, rfl, rfl, by simp, rfl⟩
  case round =>
    obtain ⟨q, K, hm, rfl, rfl, hK, rfl⟩ := hrel
    by_cases hlt : q < n
    · have hI : (q : Int) < n := by omega
      have cell : ∀ i : Nat, i < 3 → wr.cell? ⟨g, q * 3 + i, none⟩ = some (.int .i64 (K + i)) := fun i hi => by
        rw [HB.out.1.cell, HB.out.2 (q * 3 + i) (by omega)]
        simp; omega
      have c0 : wr.cell? ⟨g, q * 3, none⟩ = some (.int .i64 K) := by have := cell 0 (by omega); simpa using this
      have c1 : wr.cell? ⟨g, q * 3 + 1, none⟩ = some (.int .i64 (K + 1)) := by have := cell 1 (by omega); simpa using this
      have c2 : wr.cell? ⟨g, q * 3 + 2, none⟩ = some (.int .i64 (K + 1 + 1)) := by have := cell 2 (by omega); rw [show K + 1 + 1 = K + 2 by omega]; simpa using this
      have HK := Lib.hid hK
      have hK0 : 0 ≤ K := by omega
      have hK1 : K ≤ 1100000000 := by omega
      clear cell hK
      go_wp2
      go_roundw
      case rel => exact ⟨q + 1, _, by omega, by go_num, rfl, by have := HK.out; omega, trivial⟩
      case measure => simp [intOf]; omega
    · obtain rfl : q = n := by omega
      have hI : ¬ (q : Int) < q := by omega
      go_wp2
      go_ret
      exact ⟨rfl, rfl⟩
end Go.Proofs.YtmgeecdgebemdaaGreatDoor.trc
namespace Go.Proofs.YtmgeecdgebemdaaGreatDoor.opn
open Go.ChangeShapes Go.WideShapes Go.ChangeAt Go.RowKit Go.Joins Go.Deep Go.Proofs.YtmgeecdgebemdaaGreatDoor.trc Go.Proofs.YtmgeecdgebemdaaGreatDoor.grow

end Go.Proofs.YtmgeecdgebemdaaGreatDoor.opn

/- The struct Write as plain data, and rows of it: the law's own copy, size, comparison, marks of such a value and of such a row; what a law's argument of these types is. -/
namespace Go.Proofs.YtmgeecdgebemdaaGreatDoor.wrt
open Go Go.ChangeShapes Go.WideShapes Go.ChangeAt Go.RowKit Go.Joins Go.Deep Go.Proofs.YtmgeecdgebemdaaGreatDoor.row Go.Proofs.YtmgeecdgebemdaaGreatDoor.val Go.Proofs.YtmgeecdgebemdaaGreatDoor.expr Go.Proofs.YtmgeecdgebemdaaGreatDoor.grow

/-- The cells of one, its value, the cells of a list of them. -/
def writeC (s : Wt) : List Value := [.int .i64 s.p, .int .i64 s.v]
theorem writeC_len (s : Wt) : (writeC s).length = 2 := rfl
abbrev writeV (s : Wt) : Value := .agg #[.int .i64 s.p, .int .i64 s.v]
abbrev writesC (L : List Wt) : List Value := gcs writeC L
theorem writesC_len (L : List Wt) : (writesC L).length = L.length * 2 := gcs_len writeC_len L
/-- The slice reads as this list. -/
abbrev WriteRow (w : World) (a : Option Addr) (n : Nat) (L : List Wt) : Prop := GRow writeC 2 w a n L
/-- The call returns this value; nothing that was there is written. -/
def BelWrite (w : World) (s : Wt) (e : Ending) (w' : World) : Prop := e = .returned (writeV s) ∧ Below w.heap.size w w'
theorem drew_below {w w' : World} (h : Below w.drew.heap.size w.drew w') : Below w.heap.size w w' := (Below.drew (Below.refl _ w)).trans h
/-- A copy of the row in new memory. -/
def MadeWrites (w : World) (n : Nat) (L : List Wt) (e : Ending) (w' : World) : Prop :=
  e = .returned (.slice (some ⟨w.heap.size, 0, none⟩) n n) ∧ Box w.heap.size (writesC L).toArray 100 w' ∧ Below w.heap.size w w'
theorem zeros_write : ∀ i, i < (Value.agg #[.int .i64 0, .int .i64 0]).cells.size → (Value.agg #[.int .i64 0, .int .i64 0]).cells[i]! = .int .i64 0 := by
  intro i hi
  have : i < 2 := hi
  match i, this with
  | 0, _ => rfl
  | 1, _ => rfl
theorem infoWrite : (Tryz.prog.info? 100).map (fun i => (i.zero, i.size, i.bytes)) = some (some (.agg #[.int .i64 0, .int .i64 0]), 2, 16) := by kernel_rfl
theorem held2o {w w' : World} {g o : Nat} {x0 x1 : Value} (hb : Below w.heap.size w w') (hg : g < w.heap.size)
    (h : w.cell? ⟨g, o, none⟩ = some (x0) ∧ w.cell? ⟨g, o + 1, none⟩ = some (x1)) :
    w'.cell? ⟨g, o, none⟩ = some (x0) ∧ w'.cell? ⟨g, o + 1, none⟩ = some (x1) :=
  ⟨(hb.cell (p := ⟨g, o, none⟩) hg).trans h.1, (hb.cell (p := ⟨g, o + 1, none⟩) hg).trans h.2⟩
/-- The cells of one that lies in a row. -/
theorem range2 {w : World} {g o : Nat} {s : Wt} (h : w.rangeAt g o (writeC s)) : w.cell? ⟨g, o, none⟩ = some (.int .i64 s.p) ∧ w.cell? ⟨g, o + 1, none⟩ = some (.int .i64 s.v) :=
  ⟨h 0 _ rfl, h 1 _ rfl⟩
theorem nums_next {cs : Array Value} {k K : Int} {q : Nat} (h : Nums cs k (q * 2)) (hs : q * 2 + 2 ≤ cs.size) (hK : K = k + 2 * q) :
    Nums (setAll cs (q * 2) [.int .i64 K, .int .i64 (K + 1)]) k ((q + 1) * 2) := by
  intro j hj
  by_cases hlt : j < q * 2
  · rw [setAll_out _ _ _ _ (by left; exact hlt)]; exact h j hlt
  · obtain ⟨i, rfl⟩ : ∃ i, j = q * 2 + i := ⟨j - q * 2, by omega⟩
    rw [setAll_in _ _ _ i (by simp; omega) (by simp; omega)]
    have hi : i < 2 := by omega
    have : i = 0 ∨ i = 1 := by omega
    rcases this with rfl | rfl <;> simp <;> omega
end Go.Proofs.YtmgeecdgebemdaaGreatDoor.wrt
namespace Go.Proofs.YtmgeecdgebemdaaGreatDoor.opn
open Go.ChangeShapes Go.WideShapes Go.ChangeAt Go.RowKit Go.Joins Go.Deep Go.Proofs.YtmgeecdgebemdaaGreatDoor.wrt Go.Proofs.YtmgeecdgebemdaaGreatDoor.grow

end Go.Proofs.YtmgeecdgebemdaaGreatDoor.opn

/- A trace as a value, and in new memory; what the program's TraceCost, WritesOf and CountSteps are to give: the shapes of their contracts. -/
namespace Go.Proofs.YtmgeecdgebemdaaGreatDoor.trc
open Go Go.ChangeShapes Go.WideShapes Go.ChangeAt Go.RowKit Go.Proofs.YtmgeecdgebemdaaGreatDoor.row Go.Proofs.YtmgeecdgebemdaaGreatDoor.val Go.Proofs.YtmgeecdgebemdaaGreatDoor.expr Go.Proofs.YtmgeecdgebemdaaGreatDoor.grow Go.Proofs.YtmgeecdgebemdaaGreatDoor.wrt

abbrev trV (a1 : Option Addr) (n1 c1 : Nat) (a2 : Option Addr) (n2 c2 : Nat) : Value := .agg #[.slice a1 n1 c1, .slice a2 n2 c2]
/-- The trace in new memory. -/
def TrMem (B : Nat) (a1 : Option Addr) (n1 c1 : Nat) (a2 : Option Addr) (n2 c2 : Nat) (M : List Mic) (U : List Int) (w' : World) : Prop :=
  w'.ownsRow B 98 3 (.slice a1 n1 c1) n1 (microsC M) ∧ w'.ownsRow B 3 1 (.slice a2 n2 c2) n2 (ivs U) ∧ ((Value.slice a1 n1 c1).ownBlock = none ∨ (Value.slice a1 n1 c1).ownBlock ≠ (Value.slice a2 n2 c2).ownBlock)
def NewTr (w : World) (M : List Mic) (U : List Int) (e : Ending) (w' : World) : Prop :=
  ∃ a1 n1 c1 a2 n2 c2, e = .returned (trV a1 n1 c1 a2 n2 c2) ∧ TrMem w.heap.size a1 n1 c1 a2 n2 c2 M U w' ∧ Below w.heap.size w w'
def NewTrB (w : World) (r : Bool) (M : List Mic) (U : List Int) (e : Ending) (w' : World) : Prop :=
  ∃ a1 n1 c1 a2 n2 c2, e = .returned (.tuple #[trV a1 n1 c1 a2 n2 c2, .bool r]) ∧ TrMem w.heap.size a1 n1 c1 a2 n2 c2 M U w' ∧ Below w.heap.size w w'
/-- The trace that came in. -/
def TrRow (w : World) (a1 : Option Addr) (n1 : Nat) (a2 : Option Addr) (n2 : Nat) (M : List Mic) (U : List Int) : Prop := MicroRow w a1 n1 M ∧ Row w a2 n2 U ∧ (n1 : Int) ≤ 1048576 ∧ (n2 : Int) ≤ 1048576
theorem TrRow.below {w w' : World} {a1 : Option Addr} {n1 : Nat} {a2 : Option Addr} {n2 : Nat} {M : List Mic} {U : List Int} (h : TrRow w a1 n1 a2 n2 M U) (hb : Below w.heap.size w w') : TrRow w' a1 n1 a2 n2 M U := ⟨h.1.below hb, h.2.1.below hb, h.2.2⟩
/-- A row of writes in new memory. -/
def NewWts (w : World) (L : List Wt) (e : Ending) (w' : World) : Prop :=
  ∃ a n c, e = .returned (.slice a n c) ∧ w'.ownsRow w.heap.size 100 2 (.slice a n c) n (writesC L) ∧ Below w.heap.size w w'
/-- Every cost is an int. -/
abbrev i64r (x : Int) : Prop := -9223372036854775808 ≤ x ∧ x ≤ 9223372036854775807
def MicOk (M : List Mic) : Prop := ∀ m ∈ M, i64r m.c
abbrev zero2T : Array Value := #[.slice none 0 0, .slice none 0 0]
abbrev TcC : Prop := ∀ (w : World) (a1 : Option Addr) (n1 c1 : Nat) (a2 : Option Addr) (n2 c2 : Nat) (M : List Mic) (U : List Int) (_ : n1 ≤ c1) (_ : TrRow w a1 n1 a2 n2 M U) (_ : MicOk M) (q : Int) (_ : costW (csts M) = q),
    Calls Tryz.prog 40 #[trV a1 n1 c1 a2 n2 c2] w (BelI w q)
abbrev WoC : Prop := ∀ (w : World) (a1 : Option Addr) (n1 c1 : Nat) (a2 : Option Addr) (n2 c2 : Nat) (M : List Mic) (U : List Int) (_ : n1 ≤ c1) (_ : TrRow w a1 n1 a2 n2 M U) (_ : MicOk M) (L : List Wt) (_ : wrs M = L),
    Calls Tryz.prog 33 #[trV a1 n1 c1 a2 n2 c2] w (NewWts w L)
abbrev CsC : Prop := ∀ (w : World) (a1 : Option Addr) (n1 c1 : Nat) (a2 : Option Addr) (n2 c2 : Nat) (M : List Mic) (U : List Int) (_ : n1 ≤ c1) (_ : TrRow w a1 n1 a2 n2 M U) (_ : MicOk M) (e : Int) (_ : i64r e) (q : Nat) (_ : cntE (csts M) e = q),
    Calls Tryz.prog 39 #[trV a1 n1 c1 a2 n2 c2, .int .i64 e] w (BelI w q)
end Go.Proofs.YtmgeecdgebemdaaGreatDoor.trc

/- Costs: what the program's table of costs holds, from what the card lists; the program's StmtCost over it, and the model's. -/
namespace Go.Proofs.YtmgeecdgebemdaaGreatDoor.cst
open Go Go.ChangeShapes Go.WideShapes Go.ChangeAt Go.RowKit Go.Deep Go.Proofs.YtmgeecdgebemdaaGreatDoor.row Go.Proofs.YtmgeecdgebemdaaGreatDoor.val Go.Proofs.YtmgeecdgebemdaaGreatDoor.stm Go.Proofs.YtmgeecdgebemdaaGreatDoor.expr

section table
variable {H : Type} {enc : TypeId × Value → H} {w : World} {base : Nat} {sp : Nat → Bool} {held : Bool} {fuel : Nat} {cs : List Value} {p : List MemPlace}
theorem cellsI : Tryz.prog.cellsOf 3 = 1 := by kernel_rfl
theorem cellsE : Tryz.prog.cellsOf 94 = 3 := by kernel_rfl
theorem cellsS : Tryz.prog.cellsOf 112 = 6 := by kernel_rfl
theorem cellsR : Tryz.prog.cellsOf 168 = 7 := by kernel_rfl
theorem cellsT : Tryz.prog.cellsOf 169 = 35 := by kernel_rfl
theorem int1 {z : Int} (h : DataW.trod enc Tryz.prog w base sp held fuel 3 cs = some (.lit (.int .i64 z), p)) : cs = [.int .i64 z] := by
  obtain ⟨z', hc, he, _⟩ := DataW.trod_int Tryz.underlying3 h
  have := (Prod.mk.inj he).1
  simp only [DataW.lit.injEq, Lit.int.injEq, true_and] at this
  subst this
  exact hc
set_option maxRecDepth 100000 in
theorem expr3 {a b c : Int} (h : DataW.trod enc Tryz.prog w base sp held fuel 94 cs = some (.agg [.lit (.int .i64 a), .lit (.int .i64 b), .lit (.int .i64 c)], p)) :
    cs = [.int .i64 a, .int .i64 b, .int .i64 c] := by
  obtain ⟨⟨d0, p0⟩, ⟨d1, p1⟩, ⟨d2, p2⟩, n, he, hl, h0, h1, h2⟩ := trod_struct3 Tryz.underlying94 h
  rw [cellsE] at hl
  have e := (Prod.mk.inj he).1
  simp only [DataW.agg.injEq, List.cons.injEq, and_true] at e
  obtain ⟨e0, e1, e2⟩ := e
  subst e0 e1 e2
  match cs, hl with
  | [c0, c1, c2], _ =>
    have k0 := int1 h0
    have k1 := int1 h1
    have k2 := int1 h2
    rw [cellsI] at k0 k1 k2
    simp at k0 k1 k2
    rw [k0, k1, k2]
set_option maxRecDepth 100000 in
theorem stmt6 {k x m a b c : Int} (h : DataW.trod enc Tryz.prog w base sp held fuel 112 cs = some (.agg [.lit (.int .i64 k), .lit (.int .i64 x), .lit (.int .i64 m), .agg [.lit (.int .i64 a), .lit (.int .i64 b), .lit (.int .i64 c)]], p)) :
    cs = [.int .i64 k, .int .i64 x, .int .i64 m, .int .i64 a, .int .i64 b, .int .i64 c] := by
  obtain ⟨xs, n, _, he, hl, hlen, hf⟩ := DataW.trod_struct Tryz.underlying112 h
  rw [cellsS] at hl
  match xs, hlen with
  | [⟨d0, p0⟩, ⟨d1, p1⟩, ⟨d2, p2⟩, ⟨d3, p3⟩], _ =>
    have e := (Prod.mk.inj he).1
    simp only [DataW.agg.injEq, List.map_cons, List.map_nil, List.cons.injEq, and_true] at e
    obtain ⟨e0, e1, e2, e3⟩ := e
    subst e0 e1 e2 e3
    match cs, hl with
    | [c0, c1, c2, c3, c4, c5], _ =>
      have k0 := int1 (hf 0 _ rfl)
      have k1 := int1 (hf 1 _ rfl)
      have k2 := int1 (hf 2 _ rfl)
      have k3 := expr3 (hf 3 _ rfl)
      change List.take (Tryz.prog.cellsOf 3) (List.drop 0 [c0, c1, c2, c3, c4, c5]) = _ at k0
      change List.take (Tryz.prog.cellsOf 3) (List.drop 1 [c0, c1, c2, c3, c4, c5]) = _ at k1
      change List.take (Tryz.prog.cellsOf 3) (List.drop 2 [c0, c1, c2, c3, c4, c5]) = _ at k2
      change List.take (Tryz.prog.cellsOf 94) (List.drop 3 [c0, c1, c2, c3, c4, c5]) = _ at k3
      rw [cellsI] at k0 k1 k2
      rw [cellsE] at k3
      simp at k0 k1 k2 k3
      obtain ⟨k3, k4, k5⟩ := k3
      rw [k0, k1, k2, k3, k4, k5]
set_option maxRecDepth 100000 in
theorem row7 {k r : Int} (h : DataW.trod enc Tryz.prog w base sp held fuel 168 cs = some (.agg [.agg [.lit (.int .i64 k), .lit (.int .i64 0), .lit (.int .i64 0), .agg [.lit (.int .i64 0), .lit (.int .i64 0), .lit (.int .i64 0)]], .lit (.int .i64 r)], p)) :
    cs = [.int .i64 k, .int .i64 0, .int .i64 0, .int .i64 0, .int .i64 0, .int .i64 0, .int .i64 r] := by
  obtain ⟨⟨d0, p0⟩, ⟨d1, p1⟩, n, he, hl, h0, h1⟩ := trod_struct2 Tryz.underlying168 h
  rw [cellsR] at hl
  have e := (Prod.mk.inj he).1
  simp only [DataW.agg.injEq, List.cons.injEq, and_true] at e
  obtain ⟨e0, e1⟩ := e
  subst e0 e1
  match cs, hl with
  | [c0, c1, c2, c3, c4, c5, c6], _ =>
    have k0 := stmt6 h0
    have k1 := int1 h1
    rw [cellsS] at k0
    rw [cellsI] at k1
    simp at k0 k1
    obtain ⟨k0, k2, k3, k4, k5, k6⟩ := k0
    rw [k0, k1, k2, k3, k4, k5, k6]
end table
/-- The table's cells: the statement of which only the kind is left, and its cost, five times. -/
def costCells : List Value := [.int .i64 1, .int .i64 0, .int .i64 0, .int .i64 0, .int .i64 0, .int .i64 0, .int .i64 2,
  .int .i64 2, .int .i64 0, .int .i64 0, .int .i64 0, .int .i64 0, .int .i64 0, .int .i64 5,
  .int .i64 3, .int .i64 0, .int .i64 0, .int .i64 0, .int .i64 0, .int .i64 0, .int .i64 4,
  .int .i64 4, .int .i64 0, .int .i64 0, .int .i64 0, .int .i64 0, .int .i64 0, .int .i64 1,
  .int .i64 5, .int .i64 0, .int .i64 0, .int .i64 0, .int .i64 0, .int .i64 0, .int .i64 1]
theorem drop_seg {cs a : List Value} {k : Nat} (h : (cs.drop (k * 7)).take 7 = a) : cs.drop (k * 7) = a ++ cs.drop ((k + 1) * 7) := by
  rw [← h, show (k + 1) * 7 = k * 7 + 7 by omega, ← List.drop_drop, List.take_append_drop]
theorem gTab : Tryz.prog.globalNamed "loop.example/g00983/impl.stmtCosts" = some 0 := by kernel_rfl
theorem tTab : (Tryz.prog.globals[0]?).map (·.type) = some 169 := by kernel_rfl
/-- The block of the table. -/
def CostTab (w : World) : Prop := ∃ t fr, w.heap[(0 : Nat)]? = some (.cells costCells.toArray t fr)
set_option maxRecDepth 100000 in
theorem costs_of {W : World} {r : List (String × DataW Unit)} (h : laidMet Tryz.prog (("loop.example/g00983/impl.stmtCosts", Rows.laid_loop_example_g00983_impl_stmtCosts) :: r) W) : CostTab W := by
  obtain ⟨ps, ⟨g, t, cs, fuel, p, q, hg, ht, hv, hd, _, _⟩, _⟩ := h
  obtain rfl := Option.some.inj (gTab.symm.trans hg)
  obtain rfl := Option.some.inj (tTab.symm.trans ht)
  have hcs : cs.toList = costCells := by
    obtain ⟨xs, m, _, ex, hlen, hl, hel⟩ := DataW.trod_array Tryz.underlying169 hd
    rw [cellsT] at hlen
    match xs, hl with
    | [⟨d0, p0⟩, ⟨d1, p1⟩, ⟨d2, p2⟩, ⟨d3, p3⟩, ⟨d4, p4⟩], _ =>
      have e := (Prod.mk.inj ex).1
      simp only [Rows.laid_loop_example_g00983_impl_stmtCosts, DataW.agg.injEq, List.map_cons, List.map_nil, List.cons.injEq, and_true] at e
      obtain ⟨e0, e1, e2, e3, e4⟩ := e
      subst e0 e1 e2 e3 e4
      have k0 := hel 0 (by omega)
      have k1 := hel 1 (by omega)
      have k2 := hel 2 (by omega)
      have k3 := hel 3 (by omega)
      have k4 := hel 4 (by omega)
      rw [cellsR] at k0 k1 k2 k3 k4
      have s0 := drop_seg (row7 k0)
      have s1 := drop_seg (row7 k1)
      have s2 := drop_seg (row7 k2)
      have s3 := drop_seg (row7 k3)
      have s4 := drop_seg (row7 k4)
      have s5 : cs.toList.drop (5 * 7) = [] := List.drop_eq_nil_of_le (by omega)
      rw [show cs.toList = cs.toList.drop (0 * 7) by simp, s0, s1, s2, s3, s4, s5]
      rfl
  unfold World.var? at hv
  rw [gTab] at hv
  simp only [Option.bind_some] at hv
  split at hv
  · rename_i c2 t2 f2 hh
    have : c2 = cs := Option.some.inj hv
    refine ⟨t2, f2, ?_⟩
    rw [hh, this, ← hcs, Array.toArray_toList]
  · cases hv
/-- What a statement of this kind costs. -/
def kindC (k : Int) : Int := if k = 1 then 2 else if k = 2 then 5 else if k = 3 then 4 else if k = 4 then 1 else if k = 5 then 1 else 0
/-- What a statement costs: nothing where it is not valid. -/
def costF (s : St) : Int := if stOk s = true then kindC s.k else 0
theorem CostTab.below {w w' : World} (h : CostTab w) (hb : Below w.heap.size w w') : CostTab w' := by
  obtain ⟨t, fr, h⟩ := h
  exact ⟨t, fr, (hb.block _ (Array.getElem?_eq_some_iff.1 h).1).trans h⟩
theorem idx_any (j : Int) (h0 : 0 ≤ j) (h5 : j < 5) (w : World) : (Instr.index 169 (.agg costCells.toArray) (.int .i64 j)).run Tryz.prog w = .ok (.agg #[.int .i64 (j + 1), .int .i64 0, .int .i64 0, .int .i64 0, .int .i64 0, .int .i64 0, .int .i64 (kindC (j + 1))]) w := by
  rcases (show j = 0 ∨ j = 1 ∨ j = 2 ∨ j = 3 ∨ j = 4 by omega) with rfl | rfl | rfl | rfl | rfl <;> kernel_rfl
theorem eqKey (a b : Int) : eqSt ⟨a, 0, 0, 0, 0, 0⟩ ⟨b, 0, 0, 0, 0, 0⟩ = decide (a = b) := by
  rw [Bool.eq_iff_iff]; simp [eqSt]
theorem kindC_none {k j : Int} (hj : j = 5) (h : ¬ (1 ≤ k ∧ k ≤ j)) : kindC k = 0 := by
  unfold kindC
  rw [if_neg (by omega), if_neg (by omega), if_neg (by omega), if_neg (by omega), if_neg (by omega)]
set_option maxHeartbeats 8000000 in
set_option maxRecDepth 100000 in
theorem impl_stmtcost (s : St) (w : World) (hT : CostTab w) : Calls Tryz.prog 82 #[stV s] w (BelI w (costF s)) := by
  cases hs : stOk s
  · have HS := Lib.hid hs
    have HV := Lib.hid (show costF s = 0 by unfold costF; rw [hs]; rfl)
    clear hs
    go_enter Tryz.func82, Tryz.ntmps82
    go_wp2_with (go_at_call 141; (with_reducible refine (impl_stmtok s false HS.out _).mono ?_); rintro e w1 ⟨rfl, hb1⟩)
    have HB := Lib.hid (below_then (below_new w _) hb1)
    clear hb1
    go_wp2
    go_ret
    exact ⟨ret_int HV.out.symm, HB.out⟩
  · have HS := Lib.hid hs
    have HV := Lib.hid (show costF s = kindC s.k by unfold costF; rw [hs]; rfl)
    clear hs
    obtain ⟨k, v, n, o, a, b⟩ := s
    have hx := Box.new w #[.int .i64 k, .int .i64 v, .int .i64 n, .int .i64 o, .int .i64 a, .int .i64 b] 112
    go_enter Tryz.func82, Tryz.ntmps82
    go_wp2_with (go_at_call 141; (with_reducible refine (impl_stmtok ⟨k, v, n, o, a, b⟩ true HS.out _).mono ?_); rintro e w1 ⟨rfl, hb1⟩; refine Hid.out ?_)
    have H1 := Lib.hid (And.intro (hx.below hb1) (And.intro (below_then (below_new w _) hb1) ((hT.below (below_new w _)).below hb1)))
    clear hb1 hx hT
    have c0 : w1.cell? ⟨w.heap.size, 0, none⟩ = some (.int .i64 k) := H1.out.1.cell 0
    have hl1 : w.heap.size < w1.heap.size := H1.out.1.lt
    obtain ⟨W1, hW1⟩ : ∃ W1, w1.alloc (.cells #[.int .i64 0, .int .i64 0, .int .i64 0, .int .i64 0, .int .i64 0, .int .i64 0] 112) = W1 := ⟨_, rfl⟩
    have HBN := Lib.hid (show Below w1.heap.size w1 W1 by rw [← hW1]; exact below_new _ _)
    have HZ := Lib.hid (show Box w1.heap.size #[.int .i64 0, .int .i64 0, .int .i64 0, .int .i64 0, .int .i64 0, .int .i64 0] 112 W1 by rw [← hW1]; exact Box.new _ _ _)
    refine Lib.hid ?_
    go_wp2_with ((refine wpList_store_box rfl 112 _ _ rfl w1.heap.size _ _ HZ.out #[.int .i64 k, .int .i64 0, .int .i64 0, .int .i64 0, .int .i64 0, .int .i64 0] rfl rfl rfl (by kernel_rfl) (by simp [Value.oneCell']) ?_); intro w2 hx2 hg2; refine Hid.out ?_)
    have hb2 : Below w1.heap.size w1 w2 := HBN.out.grown hg2 HBN.out.size (fun j hj => by cases hj; exact Nat.le_refl _)
    have H2 := Lib.hid (And.intro hx2 (And.intro (below_then H1.out.2.1 hb2) (H1.out.2.2.below hb2)))
    clear hx2 hg2 hb2 c0 hW1
    obtain ⟨tt, fr, hTab⟩ := H2.out.2.2
    have HT := Lib.hid hTab
    clear hTab
    refine Lib.hid ?_
    go_wp2_with (refine wpList_load_row rfl 169 _ rfl 0 rfl _ _ _ _ HT.out Tryz.underlying169 rfl (by kernel_rfl) ?_)
    go_loopw [13] (fun i wr => ∃ (j : Int), 0 ≤ j ∧ j ≤ 5 ∧ i = .int .i64 j ∧ ¬ (1 ≤ k ∧ k ≤ j) ∧ Hid (Below w2.heap.size w2 wr)) (fun i _ => (5 - Go.RowKit.intOf i).toNat)
    case atStart => exact ⟨0, by omega, by omega, rfl, by omega, Below.refl _ _⟩
    case round =>
      obtain ⟨j, hj0, hj5, rfl, hkj, HR⟩ := hrel
      by_cases hlt : j < 5
      · have hidx := idx_any j hj0 hlt
        obtain ⟨W3, hW3⟩ : ∃ W3, wr.alloc (.cells #[.int .i64 0, .int .i64 0, .int .i64 0, .int .i64 0, .int .i64 0, .int .i64 0, .int .i64 0] 168) = W3 := ⟨_, rfl⟩
        have HBN3 := Lib.hid (show Below wr.heap.size wr W3 by rw [← hW3]; exact below_new _ _)
        have HZ3 := Lib.hid (show Box wr.heap.size #[.int .i64 0, .int .i64 0, .int .i64 0, .int .i64 0, .int .i64 0, .int .i64 0, .int .i64 0] 168 W3 by rw [← hW3]; exact Box.new _ _ _)
        go_wp2_with ((refine wpList_store_box rfl 168 _ _ rfl wr.heap.size _ _ HZ3.out #[.int .i64 (j + 1), .int .i64 0, .int .i64 0, .int .i64 0, .int .i64 0, .int .i64 0, .int .i64 (kindC (j + 1))] rfl rfl rfl (by kernel_rfl) (by simp [Value.oneCell']) ?_); intro w4 hx4 hg4; refine Hid.out ?_)
        have hb4 : Below wr.heap.size wr w4 := HBN3.out.grown hg4 HBN3.out.size (fun j hj => by cases hj; exact Nat.le_refl _)
        have H4 := Lib.hid (And.intro ((H2.out.1.below HR.out).below hb4) (And.intro (below_then HR.out hb4) hx4))
        have d0 : w4.cell? ⟨wr.heap.size, 0, none⟩ = some (.int .i64 (j + 1)) := hx4.cell 0
        have d1 : w4.cell? ⟨wr.heap.size, 1, none⟩ = some (.int .i64 0) := hx4.cell 1
        have d2 : w4.cell? ⟨wr.heap.size, 2, none⟩ = some (.int .i64 0) := hx4.cell 2
        have d3 : w4.cell? ⟨wr.heap.size, 3, none⟩ = some (.int .i64 0) := hx4.cell 3
        have d4 : w4.cell? ⟨wr.heap.size, 4, none⟩ = some (.int .i64 0) := hx4.cell 4
        have d5 : w4.cell? ⟨wr.heap.size, 5, none⟩ = some (.int .i64 0) := hx4.cell 5
        have d6 : w4.cell? ⟨wr.heap.size, 6, none⟩ = some (.int .i64 (kindC (j + 1))) := hx4.cell 6
        have hq := run_eqSt ⟨j + 1, 0, 0, 0, 0, 0⟩ ⟨k, 0, 0, 0, 0, 0⟩
        clear hb4 hx4 hg4 hW3
        by_cases hk : j + 1 = k
        · have hqb : eqSt ⟨j + 1, 0, 0, 0, 0, 0⟩ ⟨k, 0, 0, 0, 0, 0⟩ = true := by rw [eqKey]; simpa using hk
          have HK := Lib.hid hk
          clear hk
          refine Lib.hid ?_
          go_wp2_with (refine wpList_load_row rfl 112 _ rfl w1.heap.size rfl _ _ _ _ H4.out.1 Tryz.underlying112 rfl (by kernel_rfl) ?_)
          go_ret
          exact ⟨ret_int (show kindC (j + 1) = costF ⟨k, v, n, o, a, b⟩ by rw [HV.out, HK.out]), below_then H2.out.2.1 H4.out.2.1⟩
        · have hqb : eqSt ⟨j + 1, 0, 0, 0, 0, 0⟩ ⟨k, 0, 0, 0, 0, 0⟩ = false := by rw [eqKey]; simpa using hk
          refine Lib.hid ?_
          go_wp2_with (refine wpList_load_row rfl 112 _ rfl w1.heap.size rfl _ _ _ _ H4.out.1 Tryz.underlying112 rfl (by kernel_rfl) ?_)
          go_roundw
          case rel => exact ⟨j + 1, by omega, by omega, rfl, by omega, H4.out.2.1⟩
          case measure => simp [Go.RowKit.intOf]; omega
      · have HV0 := Lib.hid (show kindC k = 0 from kindC_none (by omega) hkj)
        go_wp2
        go_ret
        exact ⟨ret_int (show (0 : Int) = costF ⟨k, v, n, o, a, b⟩ by rw [HV.out, HV0.out]), below_then H2.out.2.1 HR.out⟩
theorem spec_kindcost (s : St) (w : World) : Calls Tryz.prog 174 #[stV s] w (BelI w (kindC s.k)) := by
  obtain ⟨k, v, n, o, a, b⟩ := s
  rcases kinds k with rfl | rfl | rfl | rfl | rfl | rfl | ⟨h1, h2, h3, h4, h5, h6⟩
  all_goals
    try have HV := Lib.hid (show kindC k = 0 by simp only [beq_eq_false_iff_ne] at h1 h2 h3 h4 h5 h6; unfold kindC; rw [if_neg h1, if_neg h2, if_neg h3, if_neg h4, if_neg h5])
    go_enter Tryz.func174, Tryz.ntmps174
    go_wp2
    go_ret
    first
      | exact ⟨rfl, below_new w _⟩
      | exact ⟨ret_int HV.out.symm, below_new w _⟩
end Go.Proofs.YtmgeecdgebemdaaGreatDoor.cst

/- What the program's TraceOf is to give: the shape of its contract. -/
namespace Go.Proofs.YtmgeecdgebemdaaGreatDoor.trc
open Go Go.ChangeShapes Go.WideShapes Go.ChangeAt Go.RowKit Go.Proofs.YtmgeecdgebemdaaGreatDoor.row Go.Proofs.YtmgeecdgebemdaaGreatDoor.val Go.Proofs.YtmgeecdgebemdaaGreatDoor.expr Go.Proofs.YtmgeecdgebemdaaGreatDoor.stm Go.Proofs.YtmgeecdgebemdaaGreatDoor.blk Go.Proofs.YtmgeecdgebemdaaGreatDoor.prg Go.Proofs.YtmgeecdgebemdaaGreatDoor.exe Go.Proofs.YtmgeecdgebemdaaGreatDoor.grow Go.Proofs.YtmgeecdgebemdaaGreatDoor.wrt
abbrev TrC : Prop := ∀ (a : Option Addr) (n cap : Nat) (P : List Tk) (_ : Sizes P) (_ : n ≤ cap) (w : World) (_ : TkRow w a n P) (am : Option Addr) (nm cm : Nat) (Mem : List Int) (_ : (nm : Int) ≤ 1048576) (_ : nm ≤ cm) (_ : Row w am nm Mem) (ar : Option Addr) (nr cr : Nat) (R : List Int) (_ : (nr : Int) ≤ 1048576) (_ : nr ≤ cr) (_ : Row w ar nr R)
    (z : Int) (r : Bool) (M : List Mic) (U : List Int) (_ : TraceIs P Mem R z r M U) (_ : i64r (Mem.getD 8 0)) (_ : Go.Proofs.YtmgeecdgebemdaaGreatDoor.cst.CostTab w), Calls Tryz.prog 29 #[.agg #[.slice a n cap], .slice am nm cm, .slice ar nr cr, .int .i64 z] w (NewTrB w r M U)
end Go.Proofs.YtmgeecdgebemdaaGreatDoor.trc
