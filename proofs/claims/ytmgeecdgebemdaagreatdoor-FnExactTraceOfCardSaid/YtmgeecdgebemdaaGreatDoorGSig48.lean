/- Several texts in one: MarkP MarkQ TkX. -/
import Derived.Test.YtmgeecdgebemdaaGreatDoorGSig5

/- The law's marks in a list of statements, of tasks and in a program of the answer's own, and its look at them. -/
namespace Go.Proofs.YtmgeecdgebemdaaGreatDoor.mrk
open Go Go.ChangeShapes Go.WideShapes Go.ChangeAt Go.RowKit Go.Proofs.YtmgeecdgebemdaaGreatDoor.row Go.Proofs.YtmgeecdgebemdaaGreatDoor.stm Go.Proofs.YtmgeecdgebemdaaGreatDoor.prg

/-- The cells from 0 to 'm' hold the numbers from 'k' on. -/
def Nums (cs : Array Value) (k : Int) (m : Nat) : Prop := ∀ j : Nat, j < m → cs[j]? = some (.int .i64 (k + j))
theorem Nums.six {cs : Array Value} {k K : Int} {m : Nat} (h : Nums cs k (m * 6)) (hs : m * 6 + 6 ≤ cs.size) (hK : K = k + 6 * m) :
    Nums (setAll cs (m * 6) [.int .i64 K, .int .i64 (K + 1), .int .i64 (K + 1 + 1), .int .i64 (K + 1 + 1 + 1), .int .i64 (K + 1 + 1 + 1 + 1), .int .i64 (K + 1 + 1 + 1 + 1 + 1)]) k ((m + 1) * 6) := by
  intro j hj
  by_cases hlt : j < m * 6
  · rw [setAll_out _ _ _ _ (by left; exact hlt)]; exact h j hlt
  · obtain ⟨i, rfl⟩ : ∃ i, j = m * 6 + i := ⟨j - m * 6, by omega⟩
    rw [setAll_in _ _ _ i (by simp; omega) (by omega)]
    have hi : i < 6 := by omega
    have : i = 0 ∨ i = 1 ∨ i = 2 ∨ i = 3 ∨ i = 4 ∨ i = 5 := by omega
    rcases this with rfl | rfl | rfl | rfl | rfl | rfl <;> simp <;> omega
/-- What the marks leave. -/
def MarkOut (w : World) (g n : Nat) (t : TypeId) (z : Nat) (k : Int) (e : Ending) (w' : World) : Prop :=
  e = .returned (.int .i64 (k + 6 * n)) ∧ w.grownBy w' (some g) ∧ ∃ cs', Box g cs' t w' ∧ cs'.size = z ∧ Nums cs' k (n * 6)
set_option maxHeartbeats 4000000 in
set_option maxRecDepth 100000 in
theorem markstmts_any (w : World) (g n cap : Nat) (cs : Array Value) (t : TypeId) (hb : Box g cs t w) (hs : n * 6 ≤ cs.size) (k : Int) (hk0 : 0 ≤ k) (hk1 : k ≤ 1000000000000000) (hn : n ≤ 1048576) :
    Calls Tryz.prog 129 #[.slice (some ⟨g, 0, none⟩) n cap, .int .i64 k] w (MarkOut w g n t cs.size k) := by
  have HB := Lib.hid hb
  clear hb
  go_enter Tryz.func129, Tryz.ntmps129
  go_wp2
  go_loopw [1, 5] (fun kk i wr => ∃ (m : Nat) (K : Int) (cs' : Array Value), m ≤ n ∧ i = .int .i64 m ∧ kk = .int .i64 K ∧ K = k + 6 * m ∧ Hid (w.grownBy wr (some g) ∧ Box g cs' t wr ∧ cs'.size = cs.size ∧ Nums cs' k (m * 6))) (fun _ i _ => n - (intOf i).toNat)
  case atStart => exact ⟨0, k, cs, Nat.zero_le _, rfl, rfl, by simp, grown_refl _ _, HB.out, rfl, fun j h => absurd h (by omega)⟩
  case round =>
    obtain ⟨m, K, cs', hm, rfl, rfl, hK, HI⟩ := hrel
    by_cases hlt : m < n
    · have hI : (m : Int) < n := by omega
      have hsz : m * 6 + 6 ≤ cs'.size := by have := HI.out.2.2.1; omega
      have HSZ := Lib.hid hsz
      have cell : ∀ i, i < 6 → ∃ x, wr.cell? ⟨g, m * 6 + i, none⟩ = some x := fun i hi => ⟨cs'[m * 6 + i]'(by omega), by rw [HI.out.2.1.cell]; simp⟩
      obtain ⟨x0, c0⟩ := cell 0 (by omega)
      obtain ⟨x1, c1⟩ := cell 1 (by omega)
      obtain ⟨x2, c2⟩ := cell 2 (by omega)
      obtain ⟨x3, c3⟩ := cell 3 (by omega)
      obtain ⟨x4, c4⟩ := cell 4 (by omega)
      obtain ⟨x5, c5⟩ := cell 5 (by omega)
      have f0 : wr.frozen? ⟨g, m * 6, none⟩ = false := HI.out.2.1.frozen _
      have f1 : wr.frozen? ⟨g, m * 6 + 1, none⟩ = false := HI.out.2.1.frozen _
      have f2 : wr.frozen? ⟨g, m * 6 + 2, none⟩ = false := HI.out.2.1.frozen _
      have f3 : wr.frozen? ⟨g, m * 6 + 3, none⟩ = false := HI.out.2.1.frozen _
      have f4 : wr.frozen? ⟨g, m * 6 + 4, none⟩ = false := HI.out.2.1.frozen _
      have f5 : wr.frozen? ⟨g, m * 6 + 5, none⟩ = false := HI.out.2.1.frozen _
      rw [Nat.add_zero] at c0
      have HK := Lib.hid hK
      have hK0 : 0 ≤ K := by omega
      have hK1 : K ≤ 1000010000000000 := by omega
      clear cell hsz hK
      go_wp2
      go_roundw
      case rel => exact ⟨m + 1, _, setAll cs' (m * 6) [.int .i64 K, .int .i64 (K + 1), .int .i64 (K + 1 + 1), .int .i64 (K + 1 + 1 + 1), .int .i64 (K + 1 + 1 + 1 + 1), .int .i64 (K + 1 + 1 + 1 + 1 + 1)], by omega, by go_num, rfl, by have := HK.out; omega,
        grown_trans (grown_trans (grown_trans (grown_trans (grown_trans (grown_trans HI.out.1 (grown_setCell _ g _ _)) (grown_setCell _ g _ _)) (grown_setCell _ g _ _)) (grown_setCell _ g _ _)) (grown_setCell _ g _ _)) (grown_setCell _ g _ _),
        (((((HI.out.2.1.set (m * 6) _).set (m * 6 + 1) _).set (m * 6 + 2) _).set (m * 6 + 3) _).set (m * 6 + 4) _).set (m * 6 + 5) _,
        by rw [setAll_size]; exact HI.out.2.2.1, HI.out.2.2.2.six HSZ.out HK.out⟩
      case measure => simp [intOf]; omega
    · obtain rfl : m = n := by omega
      have hI : ¬ (m : Int) < m := by omega
      go_wp2
      go_ret
      exact ⟨rfl, HI.out.1, _, HI.out.2.1, HI.out.2.2.1, HI.out.2.2.2⟩
theorem markstmts_nil (w : World) (a : Option Addr) (cap : Nat) (k : Int) : Calls Tryz.prog 129 #[.slice a 0 cap, .int .i64 k] w fun e w' => e = .returned (.int .i64 k) ∧ w' = w := by
  have hI : ¬ (0 : Int) < 0 := by omega
  go_enter Tryz.func129, Tryz.ntmps129
  go_wp2
  go_loopw [1, 5] (fun kk i wr => i = .int .i64 0 ∧ kk = .int .i64 k ∧ wr = w) (fun _ _ _ => 0)
  case atStart => exact ⟨rfl, rfl, rfl⟩
  case round =>
    obtain ⟨rfl, rfl, rfl⟩ := hrel
    go_wp2
    go_ret
    exact ⟨rfl, rfl⟩
/-- The first mark of the task 'j'. -/
def st (nb : Nat → Nat) (k : Int) : Nat → Int
  | 0 => k
  | j + 1 => st nb k j + 6 * (nb j : Int) + 3
theorem st_bound {nb : Nat → Nat} {k : Int} : ∀ (j : Nat), (∀ i, i < j → nb i ≤ 1000) → k ≤ st nb k j ∧ st nb k j ≤ k + 6003 * j
  | 0, _ => by simp [st]
  | j + 1, h => by
    have h1 := st_bound (k := k) j (fun i hi => h i (by omega))
    have h2 := h j (by omega)
    simp only [st]; omega
/-- A list of tasks of the answer's own: the row in block 'g', each task's statements in a block of their own. -/
structure Tks (lo : Nat) (w : World) (g n : Nat) (cs : Array Value) (t ts : TypeId) (gb nb : Nat → Nat) : Prop where
  box : Box g cs t w
  big : n * 4 ≤ cs.size
  low : lo ≤ g
  row : ∀ j, j < n → ∃ (ab : Option Addr) (cb : Nat), cs[j * 4]? = some (.slice ab (nb j) cb) ∧ (nb j = 0 ∨ ab = some ⟨gb j, 0, none⟩)
  small : ∀ j, j < n → nb j ≤ 1000
  body : ∀ j, j < n → nb j = 0 ∨ (lo ≤ gb j ∧ gb j ≠ g ∧ ∃ csb, Box (gb j) csb ts w ∧ nb j * 6 ≤ csb.size)
  apart : ∀ i j, i < n → j < n → i ≠ j → nb i = 0 ∨ nb j = 0 ∨ gb i ≠ gb j
/-- The marks of the first 'm' tasks are there. -/
def Mks (w : World) (cs : Array Value) (ts : TypeId) (gb nb : Nat → Nat) (k : Int) (m : Nat) : Prop :=
  ∀ i, i < m → (nb i = 0 ∨ ∃ csb, Box (gb i) csb ts w ∧ Nums csb (st nb k i) (nb i * 6)) ∧ cs[i * 4 + 1]? = some (.int .i64 (st nb k i + 6 * nb i)) ∧ cs[i * 4 + 2]? = some (.int .i64 (st nb k i + 6 * nb i + 1)) ∧ cs[i * 4 + 3]? = some (.int .i64 (st nb k i + 6 * nb i + 1 + 1))
end Go.Proofs.YtmgeecdgebemdaaGreatDoor.mrk

/- The law's marks in a list of tasks and in a program of the answer's own, and its look at them. -/
namespace Go.Proofs.YtmgeecdgebemdaaGreatDoor.mrk
open Go Go.ChangeShapes Go.WideShapes Go.ChangeAt Go.RowKit Go.Proofs.YtmgeecdgebemdaaGreatDoor.row Go.Proofs.YtmgeecdgebemdaaGreatDoor.stm Go.Proofs.YtmgeecdgebemdaaGreatDoor.prg

section
variable {lo g n m : Nat} {w w' : World} {cs : Array Value} {t ts : TypeId} {gb nb : Nat → Nat} {k : Int}
theorem Tks.body_step (h : Tks lo w g n cs t ts gb nb) (hm : m < n) (h0 : nb m ≠ 0) (hg : w.grownBy w' (some (gb m))) {csb : Array Value} (hb : Box (gb m) csb ts w') (hs : nb m * 6 ≤ csb.size) : Tks lo w' g n cs t ts gb nb where
  box := by
    rcases h.body m hm with h1 | h1
    · exact absurd h1 h0
    · exact h.box.grown hg (fun e => h1.2.1 (Option.some.inj e).symm)
  big := h.big
  low := h.low
  row := h.row
  small := h.small
  body := fun j hj => by
    rcases h.body j hj with h1 | ⟨h1, h2, csj, h3, h4⟩
    · exact .inl h1
    · by_cases e : j = m
      · subst e; exact .inr ⟨h1, h2, csb, hb, hs⟩
      · rcases h.apart j m hj hm e with h5 | h5 | h5
        · exact .inl h5
        · exact absurd h5 h0
        · exact .inr ⟨h1, h2, csj, h3.grown hg (fun e => h5 (Option.some.inj e)), h4⟩
  apart := h.apart
theorem Tks.row_step (h : Tks lo w g n cs t ts gb nb) (hg : w.grownBy w' (some g)) {a b c : Value} (hb : Box g (setAll cs (m * 4 + 1) [a, b, c]) t w') : Tks lo w' g n (setAll cs (m * 4 + 1) [a, b, c]) t ts gb nb where
  box := hb
  big := by rw [setAll_size]; exact h.big
  low := h.low
  row := fun j hj => by
    obtain ⟨ab, cb, h1, h2⟩ := h.row j hj
    refine ⟨ab, cb, ?_, h2⟩
    rw [setAll_out _ _ _ _ (by simp; omega)]; exact h1
  small := h.small
  body := fun j hj => by
    rcases h.body j hj with h1 | ⟨h1, h2, csj, h3, h4⟩
    · exact .inl h1
    · exact .inr ⟨h1, h2, csj, h3.grown hg (fun e => h2 (Option.some.inj e)), h4⟩
  apart := h.apart
theorem Mks.zero : Mks w cs ts gb nb k 0 := fun i h => by omega
theorem Mks.body_step (h : Mks w cs ts gb nb k m) (hT : Tks lo w g n cs t ts gb nb) (hm : m < n) (h0 : nb m ≠ 0) (hg : w.grownBy w' (some (gb m))) : Mks w' cs ts gb nb k m := fun i hi => by
  obtain ⟨h1, h2⟩ := h i hi
  refine ⟨?_, h2⟩
  rcases h1 with h1 | ⟨csb, h3, h4⟩
  · exact .inl h1
  · rcases hT.apart i m (by omega) hm (by omega) with h5 | h5 | h5
    · exact .inl h5
    · exact absurd h5 h0
    · exact .inr ⟨csb, h3.grown hg (fun e => h5 (Option.some.inj e)), h4⟩
theorem Mks.next (h : Mks w cs ts gb nb k m) (hT : Tks lo w g n cs t ts gb nb) (hm : m < n) (hnow : nb m = 0 ∨ ∃ csb, Box (gb m) csb ts w ∧ Nums csb (st nb k m) (nb m * 6)) (hg : w.grownBy w' (some g)) :
    Mks w' (setAll cs (m * 4 + 1) [.int .i64 (st nb k m + 6 * nb m), .int .i64 (st nb k m + 6 * nb m + 1), .int .i64 (st nb k m + 6 * nb m + 1 + 1)]) ts gb nb k (m + 1) := fun i hi => by
  have hbig := hT.big
  have hne : ∀ i, i < n → nb i = 0 ∨ gb i ≠ g := fun i hi => by
    rcases hT.body i hi with h1 | h1
    · exact .inl h1
    · exact .inr h1.2.1
  by_cases e : i = m
  · subst e
    refine ⟨?_, ?_, ?_, ?_⟩
    · rcases hnow with h1 | ⟨csb, h1, h2⟩
      · exact .inl h1
      · rcases hne i hm with h3 | h3
        · exact .inl h3
        · exact .inr ⟨csb, h1.grown hg (fun e => h3 (Option.some.inj e)), h2⟩
    · have := setAll_in [Value.int .i64 (st nb k i + 6 * nb i), .int .i64 (st nb k i + 6 * nb i + 1), .int .i64 (st nb k i + 6 * nb i + 1 + 1)] (i * 4 + 1) cs 0 (by simp) (by omega)
      exact this
    · have := setAll_in [Value.int .i64 (st nb k i + 6 * nb i), .int .i64 (st nb k i + 6 * nb i + 1), .int .i64 (st nb k i + 6 * nb i + 1 + 1)] (i * 4 + 1) cs 1 (by simp) (by omega)
      exact this
    · have := setAll_in [Value.int .i64 (st nb k i + 6 * nb i), .int .i64 (st nb k i + 6 * nb i + 1), .int .i64 (st nb k i + 6 * nb i + 1 + 1)] (i * 4 + 1) cs 2 (by simp) (by omega)
      exact this
  · obtain ⟨h1, h2, h3, h4⟩ := h i (by omega)
    refine ⟨?_, by rw [setAll_out _ _ _ _ (by simp; omega)]; exact h2, by rw [setAll_out _ _ _ _ (by simp; omega)]; exact h3, by rw [setAll_out _ _ _ _ (by simp; omega)]; exact h4⟩
    rcases h1 with h1 | ⟨csb, h1, h2⟩
    · exact .inl h1
    · rcases hne i (by omega) with h3 | h3
      · exact .inl h3
      · exact .inr ⟨csb, h1.grown hg (fun e => h3 (Option.some.inj e)), h2⟩
end
/-- What lies behind 'hi' is not written. -/
def Far (hi : Nat) (w w' : World) : Prop := ∀ b, hi ≤ b → b < w.heap.size → w'.heap[b]? = w.heap[b]?
theorem bf_grown {lo hi g : Nat} {w wr w' : World} (h : Below lo w wr ∧ Far hi w wr) (hs : w.heap.size ≤ wr.heap.size) (hlo : lo ≤ w.heap.size) (hg : wr.grownBy w' (some g)) (h1 : lo ≤ g) (h2 : g < hi) : Below lo w w' ∧ Far hi w w' :=
  ⟨h.1.grown hg (Nat.le_trans hlo hs) (fun q hq => by cases hq; exact h1), fun b hb hbw => (hg.block b (by omega) (fun e => by have := Option.some.inj e; omega)).trans (h.2 b hb hbw)⟩
/-- What the marks leave. -/
def MarkTs (lo hi : Nat) (w : World) (g n : Nat) (t ts : TypeId) (gb nb : Nat → Nat) (k : Int) (e : Ending) (w' : World) : Prop :=
  e = .returned (.int .i64 (st nb k n)) ∧ (Below lo w w' ∧ Far hi w w') ∧ ∃ cs', Tks lo w' g n cs' t ts gb nb ∧ Mks w' cs' ts gb nb k n
set_option maxHeartbeats 4000000 in
set_option maxRecDepth 100000 in
theorem marktasks_any (lo hi : Nat) (w : World) (g n cap : Nat) (cs : Array Value) (t ts : TypeId) (gb nb : Nat → Nat) (h : Tks lo w g n cs t ts gb nb) (hlo : lo ≤ w.heap.size) (hgh : g < hi) (hgb : ∀ j, j < n → nb j = 0 ∨ gb j < hi) (k : Int) (hk0 : 0 ≤ k) (hk1 : k ≤ 1000) (hn : n ≤ 1000) :
    Calls Tryz.prog 68 #[.slice (some ⟨g, 0, none⟩) n cap, .int .i64 k] w (MarkTs lo hi w g n t ts gb nb k) := by
  have HT := Lib.hid h
  have HGB := Lib.hid hgb
  clear h hgb
  go_enter Tryz.func68, Tryz.ntmps68
  go_wp2
  go_loopw [1, 5] (fun kk i wr => ∃ m : Nat, m ≤ n ∧ i = .int .i64 m ∧ kk = .int .i64 (st nb k m) ∧ Hid ((Below lo w wr ∧ Far hi w wr) ∧ w.heap.size ≤ wr.heap.size ∧ ∃ cs', Tks lo wr g n cs' t ts gb nb ∧ Mks wr cs' ts gb nb k m)) (fun _ i _ => n - (intOf i).toNat)
  case atStart => exact ⟨0, Nat.zero_le _, rfl, rfl, ⟨⟨rfl, rfl, rfl, Nat.le_refl _, fun _ _ => rfl⟩, fun _ _ _ => rfl⟩, Nat.le_refl _, cs, HT.out, Mks.zero⟩
  case round =>
    obtain ⟨m, hm, rfl, rfl, HI⟩ := hrel
    obtain ⟨hbel, hsz, cs', hT, hM⟩ := HI.out
    have HA0 := Lib.hid (And.intro hT (And.intro hM hbel))
    have HS0 := Lib.hid hsz
    clear HI hbel hsz
    by_cases hlt : m < n
    · have hI : (m : Int) < n := by omega
      obtain ⟨ab, cb, hrow, hab⟩ := hT.row m hlt
      have hbd := st_bound (nb := nb) (k := k) m (fun i hi => hT.small i (by omega))
      have hsm := hT.small m hlt
      have hbody := hT.body m hlt
      have hK0 : 0 ≤ st nb k m := by omega
      have hK1 : st nb k m ≤ 10000000 := by omega
      have HST := Lib.hid (show st nb k (m + 1) = st nb k m + 6 * (nb m : Int) + 3 from rfl)
      have c0 : wr.cell? ⟨g, m * 4, none⟩ = some (.slice ab (nb m) cb) := by rw [hT.box.cell]; exact hrow
      clear hbd hrow hT hM
      by_cases hz : nb m = 0
      · rw [hz] at c0
        have HZ := Lib.hid hz
        have HA := Lib.hid HA0.out
        have HS := Lib.hid HS0.out
        clear hz hbody hab
        go_wp2_with (go_at_call 129; (with_reducible refine (markstmts_nil _ ab cb _).mono ?_); rintro e w2 ⟨rfl, rfl⟩; refine Hid.out ?_)
        have hx : Box g cs' t w2 := HA.out.1.box
        obtain ⟨x1, c1⟩ : ∃ x, w2.cell? ⟨g, m * 4 + 1, none⟩ = some x := ⟨cs'[m * 4 + 1]'(by have := HA.out.1.big; omega), by rw [hx.cell]; simp⟩
        obtain ⟨x2, c2⟩ : ∃ x, w2.cell? ⟨g, m * 4 + 1 + 1, none⟩ = some x := ⟨cs'[m * 4 + 1 + 1]'(by have := HA.out.1.big; omega), by rw [hx.cell]; simp⟩
        obtain ⟨x3, c3⟩ : ∃ x, w2.cell? ⟨g, m * 4 + 1 + 2, none⟩ = some x := ⟨cs'[m * 4 + 1 + 2]'(by have := HA.out.1.big; omega), by rw [hx.cell]; simp⟩
        have f1 : w2.frozen? ⟨g, m * 4 + 1, none⟩ = false := hx.frozen _
        have f2 : w2.frozen? ⟨g, m * 4 + 1 + 1, none⟩ = false := hx.frozen _
        have f3 : w2.frozen? ⟨g, m * 4 + 1 + 2, none⟩ = false := hx.frozen _
        have hgs : w2.grownBy (((w2.setCell ⟨g, m * 4 + 1, none⟩ (.int .i64 (st nb k m))).setCell ⟨g, m * 4 + 1 + 1, none⟩ (.int .i64 (st nb k m + 1))).setCell ⟨g, m * 4 + 1 + 2, none⟩ (.int .i64 (st nb k m + 1 + 1))) (some g) := grown_trans (grown_trans (grown_setCell _ g _ _) (grown_setCell _ g _ _)) (grown_setCell _ g _ _)
        have hbx3 : Box g (setAll cs' (m * 4 + 1) [.int .i64 (st nb k m), .int .i64 (st nb k m + 1), .int .i64 (st nb k m + 1 + 1)]) t (((w2.setCell ⟨g, m * 4 + 1, none⟩ (.int .i64 (st nb k m))).setCell ⟨g, m * 4 + 1 + 1, none⟩ (.int .i64 (st nb k m + 1))).setCell ⟨g, m * 4 + 1 + 2, none⟩ (.int .i64 (st nb k m + 1 + 1))) := ((hx.set (m * 4 + 1) _).set (m * 4 + 1 + 1) _).set (m * 4 + 1 + 2) _
        have hM3 := HA.out.2.1.next HA.out.1 hlt (.inl HZ.out) hgs
        rw [show st nb k m + 6 * (nb m : Int) = st nb k m by rw [HZ.out]; simp] at hM3
        have H3 := Lib.hid (And.intro (HA.out.1.row_step hgs hbx3) (And.intro hM3 (bf_grown HA.out.2.2 HS.out hlo hgs HA.out.1.low hgh)))
        clear hx hgs hbx3 hM3
        refine Lib.hid ?_
        go_wp2
        go_roundw
        case rel => exact ⟨m + 1, by omega, by go_num, by rw [HST.out, HZ.out]; congr 1; simp; omega, H3.out.2.2, Nat.le_trans HS.out (by simp), _, H3.out.1, H3.out.2.1⟩
        case measure => simp [intOf]; omega
      · obtain ⟨hlg, hne, csb, hbb, hbs⟩ : lo ≤ gb m ∧ gb m ≠ g ∧ ∃ csb, Box (gb m) csb ts wr ∧ nb m * 6 ≤ csb.size := by
          rcases hbody with h | h
          · exact absurd h hz
          · exact h
        obtain rfl : ab = some ⟨gb m, 0, none⟩ := by
          rcases hab with h | h
          · exact absurd h hz
          · exact h
        have HZ := Lib.hid hz
        have HGH := Lib.hid (show gb m < hi from (HGB.out m hlt).resolve_left hz)
        have HN := Lib.hid (And.intro hlg (And.intro hne hbs))
        have HBB := Lib.hid hbb
        clear hz hbody hab hlg hne hbb hbs
        go_wp2_with (go_at_call 129; (with_reducible refine (markstmts_any _ (gb m) (nb m) cb csb ts HBB.out HN.out.2.2 _ hK0 (by omega) (by omega)).mono ?_); rintro e w2 ⟨rfl, hg2, csb', hb2, hs2, hn2⟩; refine Hid.out ?_)
        have HA := Lib.hid (And.intro (HA0.out.1.body_step hlt HZ.out hg2 hb2 (by rw [hs2]; exact HN.out.2.2)) (And.intro (HA0.out.2.1.body_step HA0.out.1 hlt HZ.out hg2) (bf_grown HA0.out.2.2 HS0.out hlo hg2 HN.out.1 HGH.out)))
        have HS := Lib.hid (Nat.le_trans HS0.out hg2.size)
        have HNOW := Lib.hid (show nb m = 0 ∨ ∃ csb, Box (gb m) csb ts w2 ∧ Nums csb (st nb k m) (nb m * 6) from .inr ⟨csb', hb2, hn2⟩)
        have hsmI : (nb m : Int) ≤ 1000 := by omega
        clear hg2 hb2 hs2 hn2
        have hx : Box g cs' t w2 := HA.out.1.box
        obtain ⟨x1, c1⟩ : ∃ x, w2.cell? ⟨g, m * 4 + 1, none⟩ = some x := ⟨cs'[m * 4 + 1]'(by have := HA.out.1.big; omega), by rw [hx.cell]; simp⟩
        obtain ⟨x2, c2⟩ : ∃ x, w2.cell? ⟨g, m * 4 + 1 + 1, none⟩ = some x := ⟨cs'[m * 4 + 1 + 1]'(by have := HA.out.1.big; omega), by rw [hx.cell]; simp⟩
        obtain ⟨x3, c3⟩ : ∃ x, w2.cell? ⟨g, m * 4 + 1 + 2, none⟩ = some x := ⟨cs'[m * 4 + 1 + 2]'(by have := HA.out.1.big; omega), by rw [hx.cell]; simp⟩
        have f1 : w2.frozen? ⟨g, m * 4 + 1, none⟩ = false := hx.frozen _
        have f2 : w2.frozen? ⟨g, m * 4 + 1 + 1, none⟩ = false := hx.frozen _
        have f3 : w2.frozen? ⟨g, m * 4 + 1 + 2, none⟩ = false := hx.frozen _
        have hgs : w2.grownBy (((w2.setCell ⟨g, m * 4 + 1, none⟩ (.int .i64 (st nb k m + 6 * (nb m : Int)))).setCell ⟨g, m * 4 + 1 + 1, none⟩ (.int .i64 (st nb k m + 6 * (nb m : Int) + 1))).setCell ⟨g, m * 4 + 1 + 2, none⟩ (.int .i64 (st nb k m + 6 * (nb m : Int) + 1 + 1))) (some g) := grown_trans (grown_trans (grown_setCell _ g _ _) (grown_setCell _ g _ _)) (grown_setCell _ g _ _)
        have hbx3 : Box g (setAll cs' (m * 4 + 1) [.int .i64 (st nb k m + 6 * (nb m : Int)), .int .i64 (st nb k m + 6 * (nb m : Int) + 1), .int .i64 (st nb k m + 6 * (nb m : Int) + 1 + 1)]) t (((w2.setCell ⟨g, m * 4 + 1, none⟩ (.int .i64 (st nb k m + 6 * (nb m : Int)))).setCell ⟨g, m * 4 + 1 + 1, none⟩ (.int .i64 (st nb k m + 6 * (nb m : Int) + 1))).setCell ⟨g, m * 4 + 1 + 2, none⟩ (.int .i64 (st nb k m + 6 * (nb m : Int) + 1 + 1))) := ((hx.set (m * 4 + 1) _).set (m * 4 + 1 + 1) _).set (m * 4 + 1 + 2) _
        have hM3 := HA.out.2.1.next HA.out.1 hlt HNOW.out hgs
        have H3 := Lib.hid (And.intro (HA.out.1.row_step hgs hbx3) (And.intro hM3 (bf_grown HA.out.2.2 HS.out hlo hgs HA.out.1.low hgh)))
        clear hx hgs hbx3 hM3
        refine Lib.hid ?_
        go_wp2
        go_roundw
        case rel => exact ⟨m + 1, by omega, by go_num, by rw [HST.out]; congr 1; omega, H3.out.2.2, Nat.le_trans HS.out (by simp), _, H3.out.1, H3.out.2.1⟩
        case measure => simp [intOf]; omega
    · obtain rfl : m = n := by omega
      have hI : ¬ (m : Int) < m := by omega
      clear hT hM
      go_wp2
      go_ret
      exact ⟨rfl, HA0.out.2.2, cs', HA0.out.1, HA0.out.2.1⟩
end Go.Proofs.YtmgeecdgebemdaaGreatDoor.mrk

/- The law's own copy of a list of tasks and of a program, every block of it known whole. -/
namespace Go.Proofs.YtmgeecdgebemdaaGreatDoor.prg
open Go Go.ChangeShapes Go.WideShapes Go.ChangeAt Go.RowKit Go.Proofs.YtmgeecdgebemdaaGreatDoor.row Go.Proofs.YtmgeecdgebemdaaGreatDoor.val Go.Proofs.YtmgeecdgebemdaaGreatDoor.expr Go.Proofs.YtmgeecdgebemdaaGreatDoor.stm Go.Proofs.YtmgeecdgebemdaaGreatDoor.blk

/-- The first 'k' tasks lie in these cells, the statements of each in a block behind 'G', known whole. -/
def PrefX (w : World) (P : List Tk) (G : Nat) (cs : Array Value) (k : Nat) : Prop :=
  ∀ j, j < k → ∃ (t : Tk) (g : Nat), P[j]? = some t ∧ (∀ i v, (tkC (some ⟨g, 0, none⟩) t.b.length t.b.length t)[i]? = some v → cs[j * 4 + i]? = some v) ∧ G < g ∧ Box g (stsC t.b).toArray 112 w
theorem PrefX.zero (w : World) (P : List Tk) (G : Nat) (cs : Array Value) : PrefX w P G cs 0 := fun j h => by omega
theorem PrefX.below {w w' : World} {P : List Tk} {G : Nat} {cs : Array Value} {k : Nat} (h : PrefX w P G cs k) (hb : Below w.heap.size w w') : PrefX w' P G cs k := fun j hj => by
  obtain ⟨t, g, h1, h2, h3, h4⟩ := h j hj
  exact ⟨t, g, h1, h2, h3, h4.below hb⟩
theorem PrefX.grown {w w' : World} {P : List Tk} {G : Nat} {cs : Array Value} {k : Nat} (h : PrefX w P G cs k) (hg : w.grownBy w' (some G)) : PrefX w' P G cs k := fun j hj => by
  obtain ⟨t, g, h1, h2, h3, h4⟩ := h j hj
  exact ⟨t, g, h1, h2, h3, h4.grown hg (fun e => by have := Option.some.inj e; omega)⟩
theorem PrefX.next {w : World} {P : List Tk} {G : Nat} {cs : Array Value} {k g : Nat} {t : Tk} (h : PrefX w P G cs k) (ht : P[k]? = some t) (hs : k * 4 + 4 ≤ cs.size) (hne : G < g) (hr : Box g (stsC t.b).toArray 112 w) :
    PrefX w P G (setAll cs (k * 4) (tkC (some ⟨g, 0, none⟩) t.b.length t.b.length t)) (k + 1) := fun j hj => by
  by_cases e : j = k
  · subst e
    refine ⟨t, g, ht, fun i v hv => ?_, hne, hr⟩
    have hi : i < 4 := by have := (List.getElem?_eq_some_iff.1 hv).1; simpa [tkC] using this
    rw [setAll_in _ _ _ i (by simpa [tkC] using hi) (by omega)]; exact hv
  · obtain ⟨t', g', h1, h2, h3, h4⟩ := h j (by omega)
    refine ⟨t', g', h1, fun i v hv => ?_, h3, h4⟩
    have hi : i < 4 := by have := (List.getElem?_eq_some_iff.1 hv).1; simpa [tkC] using this
    rw [setAll_out _ _ _ _ (by left; omega)]; exact h2 i v hv
/-- A program's tasks in blocks from 'lo' on, each block known whole. -/
def PrgX (lo : Nat) (w : World) (a : Option Addr) (n : Nat) (P : List Tk) : Prop :=
  P.length = n ∧ ∃ (g : Nat) (cs : Array Value), a = some ⟨g, 0, none⟩ ∧ lo ≤ g ∧ Box g cs 96 w ∧ cs.size = n * 4 ∧ PrefX w P g cs n
theorem PrgX.from {lo : Nat} {w : World} {a : Option Addr} {n : Nat} {P : List Tk} (h : PrgX lo w a n P) : TkFrom lo w a n P := by
  obtain ⟨hl, g, cs, rfl, hlo, hb, _, hP⟩ := h
  refine ⟨hl, fun k hk => ?_⟩
  obtain ⟨t, b, h1, h2, h3, h4⟩ := hP k hk
  exact ⟨g, t, b, t.b.length, t.b.length, rfl, hlo, hb.lt, h1, fun j v hj => by rw [hb.cell]; exact h2 j v hj, Nat.le_refl _, by omega, StRow.of_box' h4 rfl⟩
theorem PrgX.row {lo : Nat} {w : World} {a : Option Addr} {n : Nat} {P : List Tk} (h : PrgX lo w a n P) : TkRow w a n P := h.from.row
theorem PrgX.mono {lo lo' : Nat} {w : World} {a : Option Addr} {n : Nat} {P : List Tk} (h : PrgX lo w a n P) (hl : lo' ≤ lo) : PrgX lo' w a n P := by
  obtain ⟨h1, g, cs, h2, h3, h4⟩ := h
  exact ⟨h1, g, cs, h2, Nat.le_trans hl h3, h4⟩
theorem PrgX.below {lo : Nat} {w w' : World} {a : Option Addr} {n : Nat} {P : List Tk} (h : PrgX lo w a n P) (hb : Below w.heap.size w w') : PrgX lo w' a n P := by
  obtain ⟨h1, g, cs, h2, h3, h4, h5, h6⟩ := h
  exact ⟨h1, g, cs, h2, h3, h4.below hb, h5, h6.below hb⟩
theorem PrgX.grown {lo : Nat} {w w' : World} {a : Option Addr} {n G : Nat} {P : List Tk} (h : PrgX lo w a n P) (hg : w.grownBy w' (some G)) (hG : G < lo) : PrgX lo w' a n P := by
  obtain ⟨h1, g, cs, h2, h3, h4, h5, h6⟩ := h
  exact ⟨h1, g, cs, h2, h3, h4.grown hg (fun e => by have := Option.some.inj e; omega), h5, fun j hj => by
    obtain ⟨t, b, q1, q2, q3, q4⟩ := h6 j hj
    exact ⟨t, b, q1, q2, q3, q4.grown hg (fun e => by have := Option.some.inj e; omega)⟩⟩
theorem PrefX.row {w : World} {P : List Tk} {cs : Array Value} {g n : Nat} (h : PrefX w P g cs n) (hl : P.length = n) (hs : cs.size = n * 4) (hb : Box g cs 96 w) : PrgX g w (some ⟨g, 0, none⟩) n P :=
  ⟨hl, g, cs, rfl, Nat.le_refl _, hb, hs, h⟩
/-- A copy of the list of tasks in new memory. -/
def MadeTksX (w : World) (n : Nat) (P : List Tk) (e : Ending) (w' : World) : Prop :=
  ∃ a' : Option Addr, e = .returned (.slice a' n n) ∧ Hid (PrgX w.heap.size w' a' n P) ∧ Below w.heap.size w w'
/-- A copy of the program in new memory. -/
def MadePrgX (w : World) (n : Nat) (P : List Tk) (e : Ending) (w' : World) : Prop :=
  ∃ a' : Option Addr, e = .returned (.agg #[.slice a' n n]) ∧ Hid (PrgX w.heap.size w' a' n P) ∧ Below w.heap.size w w'
set_option maxHeartbeats 2000000 in
set_option maxRecDepth 100000 in
theorem totasks_box (w : World) (a : Option Addr) (n cap : Nat) (P : List Tk) (hz : Sizes P) (h : TkRow w a n P) : Calls Tryz.prog 65 #[.slice a n cap] w (MadeTksX w n P) := by
  obtain ⟨i0, hi, hz0, hz1, hz2⟩ := info_parts infoTask
  have HL := Lib.hid h
  have HZ := Lib.hid hz
  have hn : (n : Int) ≤ 1048576 := by have := hz.1; rw [h.1] at this; omega
  clear h hz
  go_enter Tryz.func65, Tryz.ntmps65
  go_wp2_with ((refine wpList_make_full _ rfl _ _ 24 rfl w.heap.size 96 i0 _ 4 Tryz.underlying24 hi hz0 hz1 .i64 .i64 _ _ n rfl rfl rfl rfl (by rw [hz2]; omega) (by unfold maxLen; omega) (Nat.le_refl _) ?_); intro w1 hown1 hg1; refine Hid.out ?_)
  have hsz1 := hown1.1
  have hx1 := own_boxz hown1
  have hb1 := below_grown hg1
  obtain ⟨cs0, hcs0⟩ : ∃ cs0, (madeCells (tkV none 0 0 ⟨[], 0, 0, 0⟩).cells (n * 4)).toList.toArray = cs0 := ⟨_, rfl⟩
  rw [hcs0] at hx1
  have hs0 : cs0.size = n * 4 := by rw [← hcs0, List.size_toArray]; exact hsz1
  clear hg1 hown1 hsz1 hcs0
  refine Lib.hid ?_
  go_wp2
  go_loopw [4] (fun i wr => ∃ (k : Nat) (cs : Array Value), k ≤ n ∧ i = .int .i64 k ∧ Box w.heap.size cs 96 wr ∧ Hid (cs.size = n * 4 ∧ PrefX wr P w.heap.size cs k) ∧ Below w.heap.size w wr) (fun i _ => n - (intOf i).toNat)
  case atStart => exact ⟨0, cs0, Nat.zero_le _, rfl, hx1, ⟨hs0, PrefX.zero _ _ _ _⟩, hb1⟩
  case round =>
    obtain ⟨k, cs, hk, rfl, hbx, hPF, hbel⟩ := hrel
    by_cases hlt : k < n
    · obtain ⟨b, off, t, rfl, hlb, ht, ab, nb, cb, hrg, hbc, hrow⟩ := (HL.out.below hbel).2 k hlt
      have hnb : (nb : Int) ≤ 1048576 := by have := HZ.out.2 t (mem_at ht); rw [hrow.1] at this; omega
      have HR := Lib.hid (And.intro hrg (And.intro ht (And.intro hbx (And.intro hbel hrow))))
      have hI : (k : Int) < n := by omega
      clear hrg ht hbx hbel hrow
      go_wp2_with (first
        | (refine wpList_load_mid rfl 152 _ rfl b (off + k * 4) rfl (tkC ab nb cb t) _ HR.out.1 Tryz.underlying152 rfl (by kernel_rfl) ?_)
        | (go_at_call 127; refine (totask_box t ab nb cb _ hnb HR.out.2.2.2.2).mono ?_; rintro e w2 ⟨g2, n2, rfl, hg2, hs2, hb2⟩; refine Hid.out ?_))
      have H2 := Lib.hid (And.intro (HR.out.2.2.1.below hb2) (And.intro (below_then HR.out.2.2.2.1 hb2) (hPF.out.2.below hb2)))
      have HGL := Lib.hid HR.out.2.2.1.lt
      have HNE := Lib.hid (show w.heap.size < g2 by have := HR.out.2.2.1.lt; omega)
      clear hg2
      have HSZ := Lib.hid (show k * 4 + 4 ≤ cs.size by rw [hPF.out.1]; omega)
      clear hb2
      refine Lib.hid ?_
      go_wp2_with ((refine wpList_store_part rfl 96 _ _ rfl w.heap.size (k * 4) _ _ H2.out.1 #[.slice (some ⟨g2, 0, none⟩) n2 n2, .int .i64 t.o, .int .i64 t.x, .int .i64 t.y] rfl rfl HSZ.out (by kernel_rfl) (by simp [Value.oneCell']) ?_); intro w3 hx3 hg3; refine Hid.out ?_)
      obtain ⟨hs2l, hs2b⟩ := hs2.out
      subst hs2l
      have HS3 := hs2b.grown hg3 (fun e => by have := Option.some.inj e; have := HNE.out; omega)
      have H3 := Lib.hid (And.intro (show Box w.heap.size (setAll cs (k * 4) (tkC (some ⟨g2, 0, none⟩) t.b.length t.b.length t)) 96 w3 from hx3) (And.intro (And.intro (show (setAll cs (k * 4) (tkC (some ⟨g2, 0, none⟩) t.b.length t.b.length t)).size = n * 4 by rw [setAll_size]; exact hPF.out.1) ((H2.out.2.2.grown hg3).next HR.out.2.1 HSZ.out HNE.out HS3)) (H2.out.2.1.grown hg3 H2.out.2.1.size (fun j hj => by cases hj; exact Nat.le_refl _))))
      clear hx3 hg3 HS3
      refine Lib.hid ?_
      go_wp2
      go_roundw
      case rel => exact ⟨k + 1, _, by omega, by go_num, H3.out.1, H3.out.2.1, H3.out.2.2⟩
      case measure => simp [intOf]; omega
    · obtain rfl : k = n := by omega
      have hI : ¬ (k : Int) < k := by omega
      have HB := Lib.hid (And.intro (hPF.out.2.row HL.out.1 hPF.out.1 hbx) hbel)
      clear hbx hbel
      go_wp2
      go_ret
      exact ⟨_, rfl, HB.out.1, HB.out.2⟩
set_option maxHeartbeats 2000000 in
set_option maxRecDepth 100000 in
theorem toprogram_box (w : World) (a : Option Addr) (n cap : Nat) (P : List Tk) (hz : Sizes P) (h : TkRow w a n P) : Calls Tryz.prog 19 #[.agg #[.slice a n cap]] w (MadePrgX w n P) := by
  obtain ⟨W, hW⟩ : ∃ W, W = ((w.alloc (.cells #[.slice a n cap] 40)).alloc (.cells #[.slice none 0 0] 26)).alloc (.cells #[.slice none 0 0] 26) := ⟨_, rfl⟩
  have hs : W.heap.size = w.heap.size + 3 := by rw [hW]; simp
  have e1 : ∀ x : Obj, (w.alloc x).heap.size = w.heap.size + 1 := fun x => by simp
  have e2 : ∀ x y : Obj, ((w.alloc x).alloc y).heap.size = w.heap.size + 2 := fun x y => by simp
  have b1 : Box (w.heap.size + 1) #[.slice none 0 0] 26 W := by
    have h9 := (Box.new (w.alloc (.cells #[.slice a n cap] 40)) #[.slice none 0 0] 26).alloc (.cells #[.slice none 0 0] 26)
    rw [e1] at h9; rw [hW]; exact h9
  have b2 : Box (w.heap.size + 2) #[.slice none 0 0] 26 W := by
    have h9 := Box.new ((w.alloc (.cells #[.slice a n cap] 40)).alloc (.cells #[.slice none 0 0] 26)) #[.slice none 0 0] 26
    rw [e2] at h9; rw [hW]; exact h9
  have hb : Below w.heap.size w W := by
    rw [hW]; exact (((Below.refl _ _).alloc (Nat.le_refl _) _).alloc (by simp) _).alloc (by simp; omega) _
  have H0 := Lib.hid (And.intro b1 (And.intro b2 (And.intro hb (h.below hb))))
  have HS := Lib.hid hs
  have HW := Lib.hid hW
  have HZ := Lib.hid hz
  clear b1 b2 hb hs hW e1 e2 h hz
  go_enter Tryz.func19, Tryz.ntmps19
  go_wp2_with (go_at_call 65; rw [← HW.out]; refine (totasks_box W a n cap P HZ.out H0.out.2.2.2).mono ?_; rintro e w1 ⟨a1, rfl, hT1, hb1⟩; refine Hid.out ?_)
  have b2 := H0.out.2.1.below hb1
  have c : w1.cell? ⟨w.heap.size + 2, 0, none⟩ = some (.slice none 0 0) := b2.cell 0
  have f : w1.frozen? ⟨w.heap.size + 2, 0, none⟩ = false := b2.frozen 0
  have H1 := Lib.hid (And.intro b2 (And.intro (H0.out.1.below hb1) (And.intro (H0.out.2.2.1.trans (hb1.mono (by have := HS.out; omega))) hT1)))
  have HS1 := Lib.hid hb1.size
  clear b2 hb1
  refine Lib.hid ?_
  go_wp2_with (first
    | (refine wpList_load_row rfl 26 _ rfl (w.heap.size + 2) rfl _ _ _ _ (H1.out.1.set 0 (.slice a1 n n)) Tryz.underlying26 rfl (by kernel_rfl) ?_)
    | ((refine wpList_store_box rfl 26 _ _ rfl (w.heap.size + 1) _ _ (H1.out.2.1.set_other (by simp) _) #[.slice a1 n n] rfl rfl rfl (by kernel_rfl) (by simp [Value.oneCell']) ?_); intro w4 hx4 hg4; refine Hid.out ?_))
  have hT4 := ((H1.out.2.2.2.out).grown (grown_setCell w1 (w.heap.size + 2) 0 (.slice a1 n n)) (by have := HS.out; omega)).grown hg4 (by have := HS.out; omega)
  have hb4 := ((H1.out.2.2.1.setCell (by show w.heap.size ≤ w.heap.size + 2; omega) (.slice a1 n n))).grown hg4 (by have := H1.out.2.2.1.size; simpa using this) (fun j hj => by cases hj; omega)
  have H4 := Lib.hid (And.intro hx4 (And.intro (hT4.mono (show w.heap.size ≤ W.heap.size by have := HS.out; omega)) hb4))
  clear hx4 hg4 hT4 hb4 c f
  refine Lib.hid ?_
  go_wp2
  exact bodyPost_ret (v := .agg #[.slice a1 n n]) (results_cell_row rfl _ _ (w.heap.size + 1) _ _ _ _ rfl H4.out.1 Tryz.underlying26 rfl (by kernel_rfl)) rfl ⟨_, rfl, H4.out.2.1, H4.out.2.2⟩
end Go.Proofs.YtmgeecdgebemdaaGreatDoor.prg
