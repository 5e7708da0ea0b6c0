/- Several texts in one: MarkP MarkT Open. -/
import Derived.Test.YtebokjjeeedmjaaGHub15
import Derived.Test.YtebokjjeeedmjaaRows
import Derived.WalkKit
import Derived.ProofKit
import Derived.OpenShut
import Derived.Lib.SmallJoins

/- The law's marks in a list of statements, of tasks and in a program of the answer's own, and its look at them. -/
namespace Go.Proofs.Ytebokjjeeedmjaa.mrk
open Go Go.ChangeShapes Go.WideShapes Go.ChangeAt Go.RowKit Go.Proofs.Ytebokjjeeedmjaa.row Go.Proofs.Ytebokjjeeedmjaa.stm Go.Proofs.Ytebokjjeeedmjaa.prg

/-- The cells from 0 to 'm' hold the numbers from 'k' on. -/
def Nums (cs : Array Value) (k : Int) (m : Nat) : Prop := ∀ j : Nat, j < m → cs[j]? = some (.int .i64 (k + j))
theorem Nums.six {cs : Array Value} {k K : Int} {m : Nat} (h : Nums cs k (m * 6)) (hs : m * 6 + 6 ≤ cs.size) (hK : K = k + 6 * m) :
    Nums (setAll cs (m * 6) [.int .i64 K, .int .i64 (K + 1), .int .i64 (K + 1 + 1), .int .i64 (K + 1 + 1 + 1), .int .i64 (K + 1 + 1 + 1 + 1), .int .i64 (K + 1 + 1 + 1 + 1 + 1)]) k ((m + 1) * 6) := by
  intro j hj
  by_cases hlt : j < m * 6
  · rw [setAll_out _ _ _ _ (by left; exact hlt)]; exact h j hlt
  · obtain ⟨i, rfl⟩ : ∃ i, j = m * 6 + i := ⟨j - m * 6, by omega⟩
    rw [setAll_in _ _ _ i (by simp; omega) (by omega)]
    have hi : i < 6 := by omega
    have : i = 0 ∨ i = 1 ∨ i = 2 ∨ i = 3 ∨ i = 4 ∨ i = 5 := by omega
    rcases this with rfl | rfl | rfl | rfl | rfl | rfl <;> simp <;> omega
/-- What the marks leave. -/
def MarkOut (w : World) (g n : Nat) (t : TypeId) (z : Nat) (k : Int) (e : Ending) (w' : World) : Prop :=
  e = .returned (.int .i64 (k + 6 * n)) ∧ w.grownBy w' (some g) ∧ ∃ cs', Box g cs' t w' ∧ cs'.size = z ∧ Nums cs' k (n * 6)
set_option maxHeartbeats 4000000 in
set_option maxRecDepth 100000 in
theorem markstmts_any (w : World) (g n cap : Nat) (cs : Array Value) (t : TypeId) (hb : Box g cs t w) (hs : n * 6 ≤ cs.size) (k : Int) (hk0 : 0 ≤ k) (hk1 : k ≤ 1000000000) (hn : n ≤ 1048576) :
    Calls Try.prog 46 #[.slice (some ⟨g, 0, none⟩) n cap, .int .i64 k] w (MarkOut w g n t cs.size k) := by
  have HB := Lib.hid hb
  clear hb
  go_enter Try.func46, Try.ntmps46
  go_wp2
  go_loopw [1, 5] (fun kk i wr => ∃ (m : Nat) (K : Int) (cs' : Array Value), m ≤ n ∧ i = .int .i64 m ∧ kk = .int .i64 K ∧ K = k + 6 * m ∧ Hid (w.grownBy wr (some g) ∧ Box g cs' t wr ∧ cs'.size = cs.size ∧ Nums cs' k (m * 6))) (fun _ i _ => n - (intOf i).toNat)
  case atStart => exact ⟨0, k, cs, Nat.zero_le _, rfl, rfl, by simp, grown_refl _ _, HB.out, rfl, fun j h => absurd h (by omega)⟩
  case round =>
    obtain ⟨m, K, cs', hm, rfl, rfl, hK, HI⟩ := hrel
    by_cases hlt : m < n
    · have hI : (m : Int) < n := by omega
      have hsz : m * 6 + 6 ≤ cs'.size := by have := HI.out.2.2.1; omega
      have HSZ := Lib.hid hsz
      have cell : ∀ i, i < 6 → ∃ x, wr.cell? ⟨g, m * 6 + i, none⟩ = some x := fun i hi => ⟨cs'[m * 6 + i]'(by omega), by rw [HI.out.2.1.cell]; simp⟩
      obtain ⟨x0, c0⟩ := cell 0 (by omega)
      obtain ⟨x1, c1⟩ := cell 1 (by omega)
      obtain ⟨x2, c2⟩ := cell 2 (by omega)
      obtain ⟨x3, c3⟩ := cell 3 (by omega)
      obtain ⟨x4, c4⟩ := cell 4 (by omega)
      obtain ⟨x5, c5⟩ := cell 5 (by omega)
      have f0 : wr.frozen? ⟨g, m * 6, none⟩ = false := HI.out.2.1.frozen _
      have f1 : wr.frozen? ⟨g, m * 6 + 1, none⟩ = false := HI.out.2.1.frozen _
      have f2 : wr.frozen? ⟨g, m * 6 + 2, none⟩ = false := HI.out.2.1.frozen _
      have f3 : wr.frozen? ⟨g, m * 6 + 3, none⟩ = false := HI.out.2.1.frozen _
      have f4 : wr.frozen? ⟨g, m * 6 + 4, none⟩ = false := HI.out.2.1.frozen _
      have f5 : wr.frozen? ⟨g, m * 6 + 5, none⟩ = false := HI.out.2.1.frozen _
      rw [Nat.add_zero] at c0
      have HK := Lib.hid hK
      have hK0 : 0 ≤ K := by omega
      have hK1 : K ≤ 1010000000 := by omega
      clear cell hsz hK
      go_wp2
      go_roundw
      case rel => exact ⟨m + 1, _, setAll cs' (m * 6) [.int .i64 K, .int .i64 (K + 1), .int .i64 (K + 1 + 1), .int .i64 (K + 1 + 1 + 1), .int .i64 (K + 1 + 1 + 1 + 1), .int .i64 (K + 1 + 1 + 1 + 1 + 1)], by omega, by go_num, rfl, by have := HK.out; omega,
        grown_trans (grown_trans (grown_trans (grown_trans (grown_trans (grown_trans HI.out.1 (grown_setCell _ g _ _)) (grown_setCell _ g _ _)) (grown_setCell _ g _ _)) (grown_setCell _ g _ _)) (grown_setCell _ g _ _)) (grown_setCell _ g _ _),
        (((((HI.out.2.1.set (m * 6) _).set (m * 6 + 1) _).set (m * 6 + 2) _).set (m * 6 + 3) _).set (m * 6 + 4) _).set (m * 6 + 5) _,
        by rw [setAll_size]; exact HI.out.2.2.1, HI.out.2.2.2.six HSZ.out HK.out⟩
      case measure => simp [intOf]; omega
    · obtain rfl : m = n := by omega
      have hI : ¬ (m : Int) < m := by omega
      go_wp2
      go_ret
      exact ⟨rfl, HI.out.1, _, HI.out.2.1, HI.out.2.2.1, HI.out.2.2.2⟩
theorem markstmts_nil (w : World) (a : Option Addr) (cap : Nat) (k : Int) : Calls Try.prog 46 #[.slice a 0 cap, .int .i64 k] w fun e w' => e = .returned (.int .i64 k) ∧ w' = w := by
  have hI : ¬ (0 : Int) < 0 := by omega
  go_enter Try.func46, Try.ntmps46
  go_wp2
  go_loopw [1, 5] (fun kk i wr => i = .int .i64 0 ∧ kk = .int .i64 k ∧ wr = w) (fun _ _ _ => 0)
  case atStart => exact ⟨rfl, rfl, rfl⟩
  case round =>
    obtain ⟨rfl, rfl, rfl⟩ := hrel
    go_wp2
    go_ret
    exact ⟨rfl, rfl⟩
/-- The first mark of the task 'j'. -/
def st (nb : Nat → Nat) (k : Int) : Nat → Int
  | 0 => k
  | j + 1 => st nb k j + 6 * (nb j : Int) + 3
theorem st_bound {nb : Nat → Nat} {k : Int} : ∀ (j : Nat), (∀ i, i < j → nb i ≤ 1000) → k ≤ st nb k j ∧ st nb k j ≤ k + 6003 * j
  | 0, _ => by simp [st]
  | j + 1, h => by
    have h1 := st_bound (k := k) j (fun i hi => h i (by omega))
    have h2 := h j (by omega)
    simp only [st]; omega
/-- A list of tasks of the answer's own: the row in block 'g', each task's statements in a block of their own. -/
structure Tks (lo : Nat) (w : World) (g n : Nat) (cs : Array Value) (t ts : TypeId) (gb nb : Nat → Nat) : Prop where
  box : Box g cs t w
  big : n * 4 ≤ cs.size
  low : lo ≤ g
  row : ∀ j, j < n → ∃ (ab : Option Addr) (cb : Nat), cs[j * 4]? = some (.slice ab (nb j) cb) ∧ (nb j = 0 ∨ ab = some ⟨gb j, 0, none⟩)
  small : ∀ j, j < n → nb j ≤ 1000
  body : ∀ j, j < n → nb j = 0 ∨ (lo ≤ gb j ∧ gb j ≠ g ∧ ∃ csb, Box (gb j) csb ts w ∧ nb j * 6 ≤ csb.size)
  apart : ∀ i j, i < n → j < n → i ≠ j → nb i = 0 ∨ nb j = 0 ∨ gb i ≠ gb j
/-- The marks of the first 'm' tasks are there. -/
def Mks (w : World) (cs : Array Value) (ts : TypeId) (gb nb : Nat → Nat) (k : Int) (m : Nat) : Prop :=
  ∀ i, i < m → (nb i = 0 ∨ ∃ csb, Box (gb i) csb ts w ∧ Nums csb (st nb k i) (nb i * 6)) ∧ cs[i * 4 + 1]? = some (.int .i64 (st nb k i + 6 * nb i)) ∧ cs[i * 4 + 2]? = some (.int .i64 (st nb k i + 6 * nb i + 1)) ∧ cs[i * 4 + 3]? = some (.int .i64 (st nb k i + 6 * nb i + 1 + 1))
end Go.Proofs.Ytebokjjeeedmjaa.mrk

/- The law's marks in a task of the answer's own. -/
namespace Go.Proofs.Ytebokjjeeedmjaa.mrk
open Go Go.ChangeShapes Go.WideShapes Go.ChangeAt Go.RowKit Go.Proofs.Ytebokjjeeedmjaa.row Go.Proofs.Ytebokjjeeedmjaa.val Go.Proofs.Ytebokjjeeedmjaa.stm Go.Proofs.Ytebokjjeeedmjaa.blk Go.Proofs.Ytebokjjeeedmjaa.prg

set_option maxHeartbeats 1000000 in
set_option maxRecDepth 100000 in
theorem marktask_any (w : World) (g n cap : Nat) (t : Tk) (cs : Array Value) (ty : TypeId) (hb : Box g cs ty w) (hs : n * 6 ≤ cs.size) (k : Int) (hk0 : 0 ≤ k) (hk1 : k ≤ 1000000000) (hn : n ≤ 1048576) :
    Calls Try.prog 20 #[tkV (some ⟨g, 0, none⟩) n cap t, .int .i64 k] w fun e w' => e = .returned (.int .i64 (k + 6 * n)) ∧ w.grownBy w' (some g) := by
  obtain ⟨W, hW⟩ : ∃ W, w.alloc (.cells #[.slice (some ⟨g, 0, none⟩) n cap, .int .i64 t.o, .int .i64 t.x, .int .i64 t.y] 33) = W := ⟨_, rfl⟩
  have hbx : Box w.heap.size #[.slice (some ⟨g, 0, none⟩) n cap, .int .i64 t.o, .int .i64 t.x, .int .i64 t.y] 33 W := by rw [← hW]; exact Box.new _ _ _
  have hBW : Below w.heap.size w W := by rw [← hW]; exact below_new _ _
  have c0 : W.cell? ⟨w.heap.size, 0, none⟩ = some (.slice (some ⟨g, 0, none⟩) n cap) := hbx.cell 0
  have HM := Lib.hid (markstmts_any W g n cap cs ty (hb.below hBW) hs k hk0 hk1 hn)
  have HB := Lib.hid hBW
  clear hb hbx hBW
  go_enter Try.func20, Try.ntmps20
  go_wp2_with (go_at_call 46; (with_reducible refine HM.out.mono ?_); rintro e w' ⟨rfl, hg, _⟩)
  go_ret
  exact ⟨rfl, grown_trans (grown_below HB.out _) hg⟩
end Go.Proofs.Ytebokjjeeedmjaa.mrk

/- What a law's argument is made of, by its type: a struct of numbers is its fields. -/
namespace Go.Proofs.Ytebokjjeeedmjaa.opn
open Go.ChangeShapes Go.WideShapes Go.ChangeAt Go.RowKit Go.Joins Go.Deep

/-- An expression that came in: three numbers. -/
def IsExpr (_ : World) (v : Value) : Prop := ∃ o a b : Int, v = .agg #[.int .i64 o, .int .i64 a, .int .i64 b] ∧ (Lit.int .i64 o).wf = true ∧ (Lit.int .i64 a).wf = true ∧ (Lit.int .i64 b).wf = true
set_option maxRecDepth 100000 in
theorem open_Expr {H : Type} {enc : TypeId × Value → H} {w w' : World} {base : Nat} {spare : Nat → Bool} {held : Bool} {r : Reach} {b0 : Nat} {v : Value} {d : DataW H} {p : List MemPlace}
    (hv : Value.okWide Try.prog w r b0 41 v) (h : DataW.Trod enc Try.prog w base spare held 41 v d p) : IsExpr w' v := by
  obtain ⟨v0, v1, v2, y0, y1, y2, n, rfl, _, _, h0, h1, h2⟩ := open_agg3 Try.underlying41 (by kernel_rfl) (by kernel_rfl) hv h
  obtain ⟨o, e0, _, w0⟩ := DataW.trod_int Try.underlying3 h0
  obtain ⟨a, e1, _, w1⟩ := DataW.trod_int Try.underlying3 h1
  obtain ⟨b, e2, _, w2⟩ := DataW.trod_int Try.underlying3 h2
  simp at e0 e1 e2
  subst e0 e1 e2
  exact ⟨o, a, b, rfl, w0, w1, w2⟩
/-- A statement that came in: six numbers. -/
def IsStmt (_ : World) (v : Value) : Prop := ∃ k x n o a b : Int, v = .agg #[.int .i64 k, .int .i64 x, .int .i64 n, .int .i64 o, .int .i64 a, .int .i64 b] ∧
  (Lit.int .i64 k).wf = true ∧ (Lit.int .i64 x).wf = true ∧ (Lit.int .i64 n).wf = true ∧ (Lit.int .i64 o).wf = true ∧ (Lit.int .i64 a).wf = true ∧ (Lit.int .i64 b).wf = true
set_option maxRecDepth 100000 in
theorem open_Stmt {H : Type} {enc : TypeId × Value → H} {w w' : World} {base : Nat} {spare : Nat → Bool} {held : Bool} {r : Reach} {b0 : Nat} {v : Value} {d : DataW H} {p : List MemPlace}
    (hv : Value.okWide Try.prog w r b0 90 v) (h : DataW.Trod enc Try.prog w base spare held 90 v d p) : IsStmt w' v := by
  obtain ⟨⟨cs⟩, rfl, hsz⟩ := okWide_struct Try.underlying90 hv
  obtain ⟨fuel, hf⟩ := h
  have hC : Try.prog.cellsOf 90 = 6 := by kernel_rfl
  have hI : Try.prog.cellsOf 3 = 1 := by kernel_rfl
  have hE : Try.prog.cellsOf 41 = 3 := by kernel_rfl
  rw [hC] at hsz
  match cs, hsz, hf with
  | [c0, c1, c2, c3, c4, c5], _, hf =>
    obtain ⟨y0, y1, y2, y3, m, _, _, h0, h1, h2, h3⟩ := trod_struct4 Try.underlying90 hf
    simp [Value.cells, hI, hE] at h0 h1 h2 h3
    obtain ⟨z0, z1, z2, m2, _, _, h4, h5, h6⟩ := trod_struct3 Try.underlying41 h3
    simp [hI] at h4 h5 h6
    obtain ⟨k, e0, _, w0⟩ := DataW.trod_int Try.underlying3 h0
    obtain ⟨x, e1, _, w1⟩ := DataW.trod_int Try.underlying3 h1
    obtain ⟨n, e2, _, w2⟩ := DataW.trod_int Try.underlying3 h2
    obtain ⟨o, e3, _, w3⟩ := DataW.trod_int Try.underlying3 h4
    obtain ⟨a, e4, _, w4⟩ := DataW.trod_int Try.underlying3 h5
    obtain ⟨b, e5, _, w5⟩ := DataW.trod_int Try.underlying3 h6
    simp at e0 e1 e2 e3 e4 e5
    subst e0 e1 e2 e3 e4 e5
    exact ⟨k, x, n, o, a, b, rfl, w0, w1, w2, w3, w4, w5⟩
end Go.Proofs.Ytebokjjeeedmjaa.opn
