/- Several texts in one: WtR. -/
import Derived.Test.YtlicadaecfgklaaGHub3
import Derived.Test.YtlicadaecfgklaaGHub6
import Derived.Test.YtlicadaecfgklaaGHub1
import Derived.Deep.Slices
import Derived.Deep.RegionHeld3

/- The struct Write as plain data, and rows of it: the law's own copy, size, comparison, marks of such a value and of such a row; what a law's argument of these types is. -/
namespace Go.Proofs.Ytlicadaecfgklaa.wrt
open Go Go.ChangeShapes Go.WideShapes Go.ChangeAt Go.RowKit Go.Joins Go.Deep Go.Proofs.Ytlicadaecfgklaa.row Go.Proofs.Ytlicadaecfgklaa.val Go.Proofs.Ytlicadaecfgklaa.expr Go.Proofs.Ytlicadaecfgklaa.grow

/-- The cells of one, its value, the cells of a list of them. -/
def writeC (s : Wt) : List Value := [.int .i64 s.p, .int .i64 s.v]
theorem writeC_len (s : Wt) : (writeC s).length = 2 := rfl
abbrev writeV (s : Wt) : Value := .agg #[.int .i64 s.p, .int .i64 s.v]
abbrev writesC (L : List Wt) : List Value := gcs writeC L
theorem writesC_len (L : List Wt) : (writesC L).length = L.length * 2 := gcs_len writeC_len L
/-- The slice reads as this list. -/
abbrev WriteRow (w : World) (a : Option Addr) (n : Nat) (L : List Wt) : Prop := GRow writeC 2 w a n L
/-- The call returns this value; nothing that was there is written. -/
def BelWrite (w : World) (s : Wt) (e : Ending) (w' : World) : Prop := e = .returned (writeV s) ∧ Below w.heap.size w w'
theorem drew_below {w w' : World} (h : Below w.drew.heap.size w.drew w') : Below w.heap.size w w' := (Below.drew (Below.refl _ w)).trans h
set_option maxRecDepth 100000 in
theorem eqWrite_same (s : Wt) (w : World) : Calls Try.prog 33 #[writeV s, writeV s] w (BelB w true) := by
  go_enter Try.func33, Try.ntmps33
  go_wp2
  go_ret
  exact ⟨rfl, ((Below.refl _ w).alloc (Nat.le_refl _) _).alloc (by simp) _⟩
/-- A copy of the row in new memory. -/
def MadeWrites (w : World) (n : Nat) (L : List Wt) (e : Ending) (w' : World) : Prop :=
  e = .returned (.slice (some ⟨w.heap.size, 0, none⟩) n n) ∧ Box w.heap.size (writesC L).toArray 46 w' ∧ Below w.heap.size w w'
theorem zeros_write : ∀ i, i < (Value.agg #[.int .i64 0, .int .i64 0]).cells.size → (Value.agg #[.int .i64 0, .int .i64 0]).cells[i]! = .int .i64 0 := by
  intro i hi
  have : i < 2 := hi
  match i, this with
  | 0, _ => rfl
  | 1, _ => rfl
theorem infoWrite : (Try.prog.info? 46).map (fun i => (i.zero, i.size, i.bytes)) = some (some (.agg #[.int .i64 0, .int .i64 0]), 2, 16) := by kernel_rfl
theorem held2o {w w' : World} {g o : Nat} {x0 x1 : Value} (hb : Below w.heap.size w w') (hg : g < w.heap.size)
    (h : w.cell? ⟨g, o, none⟩ = some (x0) ∧ w.cell? ⟨g, o + 1, none⟩ = some (x1)) :
    w'.cell? ⟨g, o, none⟩ = some (x0) ∧ w'.cell? ⟨g, o + 1, none⟩ = some (x1) :=
  ⟨(hb.cell (p := ⟨g, o, none⟩) hg).trans h.1, (hb.cell (p := ⟨g, o + 1, none⟩) hg).trans h.2⟩
/-- The cells of one that lies in a row. -/
theorem range2 {w : World} {g o : Nat} {s : Wt} (h : w.rangeAt g o (writeC s)) : w.cell? ⟨g, o, none⟩ = some (.int .i64 s.p) ∧ w.cell? ⟨g, o + 1, none⟩ = some (.int .i64 s.v) :=
  ⟨h 0 _ rfl, h 1 _ rfl⟩
set_option maxHeartbeats 2000000 in
set_option maxRecDepth 100000 in
theorem eqWrites_any (w : World) (a a' : Option Addr) (n cap cap' : Nat) (L : List Wt) (hn : (n : Int) ≤ 1048576) (h1 : WriteRow w a n L) (h2 : WriteRow w a' n L) :
    Calls Try.prog 10 #[.slice a n cap, .slice a' n cap'] w (BelB w true) := by
  have HC : Hid (∀ wr : World, Below w.heap.size w wr → ∀ k, k < n → ∃ (g o g' o' : Nat) (s : Wt), a = some ⟨g, o, none⟩ ∧ a' = some ⟨g', o', none⟩ ∧ wr.rangeAt g (o + k * 2) (writeC s) ∧ wr.rangeAt g' (o' + k * 2) (writeC s)) := by
    intro wr hb k hk
    obtain ⟨g, o, X, e1, _, x1, c1⟩ := (h1.below hb).2 k hk
    obtain ⟨g', o', X', e2, _, x2, c2⟩ := (h2.below hb).2 k hk
    obtain rfl : X = X' := by rw [x1] at x2; exact Option.some.inj x2
    exact ⟨g, o, g', o', X, e1, e2, c1, c2⟩
  clear h1 h2
  go_enter Try.func10, Try.ntmps10
  go_wp2
  go_loopw [5] (fun i wr => ∃ k : Nat, k ≤ n ∧ i = .int .i64 k ∧ Below w.heap.size w wr) (fun i _ => n - (intOf i).toNat)
  case atStart => exact ⟨0, Nat.zero_le _, rfl, Below.refl _ _⟩
  case round =>
    obtain ⟨k, hk, rfl, hbel⟩ := hrel
    by_cases hlt : k < n
    · obtain ⟨g, o, g', o', s, rfl, rfl, c1, c2⟩ := HC.out wr hbel k hlt
      have hI : (k : Int) < n := by omega
      have HB := Lib.hid hbel
      have hgl := range_lt c1 (show 0 < 2 by decide)
      have hgl' := range_lt c2 (show 0 < 2 by decide)
      have r0 : wr.drew.cell? ⟨g, o + k * 2, none⟩ = some (.int .i64 s.p) ∧ wr.drew.cell? ⟨g, o + k * 2 + 1, none⟩ = some (.int .i64 s.v) := range2 c1
      have t0 : wr.drew.cell? ⟨g', o' + k * 2, none⟩ = some (.int .i64 s.p) ∧ wr.drew.cell? ⟨g', o' + k * 2 + 1, none⟩ = some (.int .i64 s.v) := range2 c2
      clear c1 c2 hbel
      go_wp2
      go_region_held3 (fun w' => (w'.cell? ⟨g, o + k * 2, none⟩ = some (.int .i64 s.p) ∧ w'.cell? ⟨g, o + k * 2 + 1, none⟩ = some (.int .i64 s.v)) ∧ (w'.cell? ⟨g', o' + k * 2, none⟩ = some (.int .i64 s.p) ∧ w'.cell? ⟨g', o' + k * 2 + 1, none⟩ = some (.int .i64 s.v)))
        (first | (exact ⟨r0, t0⟩) | (exact ⟨held2o (drew_below hb2) hgl r0, held2o (drew_below hb2) hgl' t0⟩))
        (first
          | (go_at_call 33; refine (eqWrite_same s _).mono ?_; rintro e w2 ⟨rfl, hb2⟩))
      have hb3 := Lib.hid (HB.out.trans ((drew_below hb2).mono HB.out.size))
      clear hb2 r0 t0
      go_wp2
      go_roundw
      case rel => exact ⟨k + 1, by omega, by go_num, hb3.out⟩
      case measure => simp [intOf]; omega
    · have hI : ¬ (k : Int) < n := by omega
      have HB := Lib.hid hbel
      clear hbel
      go_wp2
      go_ret
      exact ⟨rfl, HB.out⟩
theorem nums_next {cs : Array Value} {k K : Int} {q : Nat} (h : Nums cs k (q * 2)) (hs : q * 2 + 2 ≤ cs.size) (hK : K = k + 2 * q) :
    Nums (setAll cs (q * 2) [.int .i64 K, .int .i64 (K + 1)]) k ((q + 1) * 2) := by
  intro j hj
  by_cases hlt : j < q * 2
  · rw [setAll_out _ _ _ _ (by left; exact hlt)]; exact h j hlt
  · obtain ⟨i, rfl⟩ : ∃ i, j = q * 2 + i := ⟨j - q * 2, by omega⟩
    rw [setAll_in _ _ _ i (by simp; omega) (by simp; omega)]
    have hi : i < 2 := by omega
    have : i = 0 ∨ i = 1 := by omega
    rcases this with rfl | rfl <;> simp <;> omega
/-- What the marks leave. -/
def MarkWrites (w : World) (g n : Nat) (t : TypeId) (z : Nat) (k : Int) (e : Ending) (w' : World) : Prop :=
  e = .returned (.int .i64 (k + 2 * n)) ∧ w.grownBy w' (some g) ∧ ∃ cs', Box g cs' t w' ∧ cs'.size = z ∧ Nums cs' k (n * 2)
set_option maxHeartbeats 4000000 in
set_option maxRecDepth 100000 in
theorem markWrites_any (w : World) (g n cap : Nat) (cs : Array Value) (t : TypeId) (hb : Box g cs t w) (hs : n * 2 ≤ cs.size) (k : Int) (hk0 : 0 ≤ k) (hk1 : k ≤ 1000000000) (hn : n ≤ 1048576) :
    Calls Try.prog 13 #[.slice (some ⟨g, 0, none⟩) n cap, .int .i64 k] w (MarkWrites w g n t cs.size k) := by
  have HB := Lib.hid hb
  clear hb
  go_enter Try.func13, Try.ntmps13
  go_wp2
  go_loopw [1, 5] (fun kk i wr => ∃ (q : Nat) (K : Int) (cs' : Array Value), q ≤ n ∧ i = .int .i64 q ∧ kk = .int .i64 K ∧ K = k + 2 * q ∧ Hid (w.grownBy wr (some g) ∧ Box g cs' t wr ∧ cs'.size = cs.size ∧ Nums cs' k (q * 2))) (fun _ i _ => n - (intOf i).toNat)
  case atStart => exact ⟨0, k, cs, Nat.zero_le _, rfl, rfl, by simp, grown_refl _ _, HB.out, rfl, fun j h => absurd h (by omega)⟩
  case round =>
    obtain ⟨q, K, cs', hm, rfl, rfl, hK, HI⟩ := hrel
    by_cases hlt : q < n
    · have hI : (q : Int) < n := by omega
      have hsz : q * 2 + 2 ≤ cs'.size := by have := HI.out.2.2.1; omega
      have HSZ := Lib.hid hsz
      have cell : ∀ i, i < 2 → ∃ x, wr.cell? ⟨g, q * 2 + i, none⟩ = some x := fun i hi => ⟨cs'[q * 2 + i]'(by omega), by rw [HI.out.2.1.cell]; simp⟩
      obtain ⟨x0, c0⟩ := cell 0 (by omega)
      obtain ⟨x1, c1⟩ := cell 1 (by omega)
      have f0 : wr.frozen? ⟨g, q * 2, none⟩ = false := HI.out.2.1.frozen _
      have f1 : wr.frozen? ⟨g, q * 2 + 1, none⟩ = false := HI.out.2.1.frozen _
      rw [Nat.add_zero] at c0
      have HK := Lib.hid hK
      have hK0 : 0 ≤ K := by omega
      have hK1 : K ≤ 1100000000 := by omega
      clear cell hsz hK
      go_wp2
      go_roundw
      case rel => exact ⟨q + 1, _, setAll cs' (q * 2) [.int .i64 K, .int .i64 (K + 1)], by omega, by go_num, rfl, by have := HK.out; omega,
        (grown_trans (grown_trans HI.out.1 (grown_setCell _ g _ _)) (grown_setCell _ g _ _)),
        ((HI.out.2.1.set (q * 2) _).set (q * 2 + 1) _),
        by rw [setAll_size]; exact HI.out.2.2.1, nums_next HI.out.2.2.2 HSZ.out HK.out⟩
      case measure => simp [intOf]; omega
    · obtain rfl : q = n := by omega
      have hI : ¬ (q : Int) < q := by omega
      go_wp2
      go_ret
      exact ⟨rfl, HI.out.1, _, HI.out.2.1, HI.out.2.2.1, HI.out.2.2.2⟩
set_option maxHeartbeats 4000000 in
set_option maxRecDepth 100000 in
theorem heldWrites_any (w : World) (g n cap : Nat) (cs : Array Value) (t : TypeId) (hb : Box g cs t w) (k : Int) (hN : Nums cs k (n * 2)) (hk0 : 0 ≤ k) (hk1 : k ≤ 1000000000) (hn : n ≤ 1048576) :
    Calls Try.prog 14 #[.slice (some ⟨g, 0, none⟩) n cap, .int .i64 k] w fun e w' => e = .returned (.int .i64 (k + 2 * n)) ∧ w' = w := by
  have HB := Lib.hid (And.intro hb hN)
  clear hb hN
  go_enter Try.func14, Try.ntmps14
  go_wp2
  go_loopw [1, 5] (fun kk i wr => ∃ (q : Nat) (K : Int), q ≤ n ∧ i = .int .i64 q ∧ kk = .int .i64 K ∧ K = k + 2 * q ∧ wr = w) (fun _ i _ => n - (intOf i).toNat)
  case atStart => exact ⟨0, k, Nat.zero_le _, rfl, rfl, by simp, rfl⟩
  case round =>
    obtain ⟨q, K, hm, rfl, rfl, hK, rfl⟩ := hrel
    by_cases hlt : q < n
    · have hI : (q : Int) < n := by omega
      have cell : ∀ i : Nat, i < 2 → wr.cell? ⟨g, q * 2 + i, none⟩ = some (.int .i64 (K + i)) := fun i hi => by
        rw [HB.out.1.cell, HB.out.2 (q * 2 + i) (by omega)]
        simp; omega
      have c0 : wr.cell? ⟨g, q * 2, none⟩ = some (.int .i64 K) := by have := cell 0 (by omega); simpa using this
      have c1 : wr.cell? ⟨g, q * 2 + 1, none⟩ = some (.int .i64 (K + 1)) := by have := cell 1 (by omega); simpa using this
      have HK := Lib.hid hK
      have hK0 : 0 ≤ K := by omega
      have hK1 : K ≤ 1100000000 := by omega
      clear cell hK
      go_wp2
      go_roundw
      case rel => exact ⟨q + 1, _, by omega, by go_num, rfl, by have := HK.out; omega, trivial⟩
      case measure => simp [intOf]; omega
    · obtain rfl : q = n := by omega
      have hI : ¬ (q : Int) < q := by omega
      go_wp2
      go_ret
      exact ⟨rfl, rfl⟩
end Go.Proofs.Ytlicadaecfgklaa.wrt
namespace Go.Proofs.Ytlicadaecfgklaa.opn
open Go.ChangeShapes Go.WideShapes Go.ChangeAt Go.RowKit Go.Joins Go.Deep Go.Proofs.Ytlicadaecfgklaa.wrt Go.Proofs.Ytlicadaecfgklaa.grow

end Go.Proofs.Ytlicadaecfgklaa.opn
