/- Several texts in one: MarkQ TkX MarkW MarkI ExeK RefK. -/
import Derived.Test.YtlinpefeojpjnaaGHub10
import Derived.Test.YtlinpefeojpjnaaGHub8
import Derived.BigQuiet

/- The law's marks in a list of tasks and in a program of the answer's own, and its look at them. -/
namespace Go.Proofs.Ytlinpefeojpjnaa.mrk
open Go Go.ChangeShapes Go.WideShapes Go.ChangeAt Go.RowKit Go.Proofs.Ytlinpefeojpjnaa.row Go.Proofs.Ytlinpefeojpjnaa.stm Go.Proofs.Ytlinpefeojpjnaa.prg

section
variable {lo g n m : Nat} {w w' : World} {cs : Array Value} {t ts : TypeId} {gb nb : Nat → Nat} {k : Int}
theorem Tks.body_step (h : Tks lo w g n cs t ts gb nb) (hm : m < n) (h0 : nb m ≠ 0) (hg : w.grownBy w' (some (gb m))) {csb : Array Value} (hb : Box (gb m) csb ts w') (hs : nb m * 6 ≤ csb.size) : Tks lo w' g n cs t ts gb nb where
  box := by
    rcases h.body m hm with h1 | h1
    · exact absurd h1 h0
    · exact h.box.grown hg (fun e => h1.2.1 (Option.some.inj e).symm)
  big := h.big
  low := h.low
  row := h.row
  small := h.small
  body := fun j hj => by
    rcases h.body j hj with h1 | ⟨h1, h2, csj, h3, h4⟩
    · exact .inl h1
    · by_cases e : j = m
      · subst e; exact .inr ⟨h1, h2, csb, hb, hs⟩
      · rcases h.apart j m hj hm e with h5 | h5 | h5
        · exact .inl h5
        · exact absurd h5 h0
        · exact .inr ⟨h1, h2, csj, h3.grown hg (fun e => h5 (Option.some.inj e)), h4⟩
  apart := h.apart
theorem Tks.row_step (h : Tks lo w g n cs t ts gb nb) (hg : w.grownBy w' (some g)) {a b c : Value} (hb : Box g (setAll cs (m * 4 + 1) [a, b, c]) t w') : Tks lo w' g n (setAll cs (m * 4 + 1) [a, b, c]) t ts gb nb where
  box := hb
  big := by rw [setAll_size]; exact h.big
  low := h.low
  row := fun j hj => by
    obtain ⟨ab, cb, h1, h2⟩ := h.row j hj
    refine ⟨ab, cb, ?_, h2⟩
    rw [setAll_out _ _ _ _ (by simp; omega)]; exact h1
  small := h.small
  body := fun j hj => by
    rcases h.body j hj with h1 | ⟨h1, h2, csj, h3, h4⟩
    · exact .inl h1
    · exact .inr ⟨h1, h2, csj, h3.grown hg (fun e => h2 (Option.some.inj e)), h4⟩
  apart := h.apart
theorem Mks.zero : Mks w cs ts gb nb k 0 := fun i h => by omega
theorem Mks.body_step (h : Mks w cs ts gb nb k m) (hT : Tks lo w g n cs t ts gb nb) (hm : m < n) (h0 : nb m ≠ 0) (hg : w.grownBy w' (some (gb m))) : Mks w' cs ts gb nb k m := fun i hi => by
  obtain ⟨h1, h2⟩ := h i hi
  refine ⟨?_, h2⟩
  rcases h1 with h1 | ⟨csb, h3, h4⟩
  · exact .inl h1
  · rcases hT.apart i m (by omega) hm (by omega) with h5 | h5 | h5
    · exact .inl h5
    · exact absurd h5 h0
    · exact .inr ⟨csb, h3.grown hg (fun e => h5 (Option.some.inj e)), h4⟩
theorem Mks.next (h : Mks w cs ts gb nb k m) (hT : Tks lo w g n cs t ts gb nb) (hm : m < n) (hnow : nb m = 0 ∨ ∃ csb, Box (gb m) csb ts w ∧ Nums csb (st nb k m) (nb m * 6)) (hg : w.grownBy w' (some g)) :
    Mks w' (setAll cs (m * 4 + 1) [.int .i64 (st nb k m + 6 * nb m), .int .i64 (st nb k m + 6 * nb m + 1), .int .i64 (st nb k m + 6 * nb m + 1 + 1)]) ts gb nb k (m + 1) := fun i hi => by
  have hbig := hT.big
  have hne : ∀ i, i < n → nb i = 0 ∨ gb i ≠ g := fun i hi => by
    rcases hT.body i hi with h1 | h1
    · exact .inl h1
    · exact .inr h1.2.1
  by_cases e : i = m
  · subst e
    refine ⟨?_, ?_, ?_, ?_⟩
    · rcases hnow with h1 | ⟨csb, h1, h2⟩
      · exact .inl h1
      · rcases hne i hm with h3 | h3
        · exact .inl h3
        · exact .inr ⟨csb, h1.grown hg (fun e => h3 (Option.some.inj e)), h2⟩
    · have := setAll_in [Value.int .i64 (st nb k i + 6 * nb i), .int .i64 (st nb k i + 6 * nb i + 1), .int .i64 (st nb k i + 6 * nb i + 1 + 1)] (i * 4 + 1) cs 0 (by simp) (by omega)
      exact this
    · have := setAll_in [Value.int .i64 (st nb k i + 6 * nb i), .int .i64 (st nb k i + 6 * nb i + 1), .int .i64 (st nb k i + 6 * nb i + 1 + 1)] (i * 4 + 1) cs 1 (by simp) (by omega)
      exact this
    · have := setAll_in [Value.int .i64 (st nb k i + 6 * nb i), .int .i64 (st nb k i + 6 * nb i + 1), .int .i64 (st nb k i + 6 * nb i + 1 + 1)] (i * 4 + 1) cs 2 (by simp) (by omega)
      exact this
  · obtain ⟨h1, h2, h3, h4⟩ := h i (by omega)
    refine ⟨?_, by rw [setAll_out _ _ _ _ (by simp; omega)]; exact h2, by rw [setAll_out _ _ _ _ (by simp; omega)]; exact h3, by rw [setAll_out _ _ _ _ (by simp; omega)]; exact h4⟩
    rcases h1 with h1 | ⟨csb, h1, h2⟩
    · exact .inl h1
    · rcases hne i (by omega) with h3 | h3
      · exact .inl h3
      · exact .inr ⟨csb, h1.grown hg (fun e => h3 (Option.some.inj e)), h2⟩
end
/-- What lies behind 'hi' is not written. -/
def Far (hi : Nat) (w w' : World) : Prop := ∀ b, hi ≤ b → b < w.heap.size → w'.heap[b]? = w.heap[b]?
theorem bf_grown {lo hi g : Nat} {w wr w' : World} (h : Below lo w wr ∧ Far hi w wr) (hs : w.heap.size ≤ wr.heap.size) (hlo : lo ≤ w.heap.size) (hg : wr.grownBy w' (some g)) (h1 : lo ≤ g) (h2 : g < hi) : Below lo w w' ∧ Far hi w w' :=
  ⟨h.1.grown hg (Nat.le_trans hlo hs) (fun q hq => by cases hq; exact h1), fun b hb hbw => (hg.block b (by omega) (fun e => by have := Option.some.inj e; omega)).trans (h.2 b hb hbw)⟩
end Go.Proofs.Ytlinpefeojpjnaa.mrk

/- The law's own copy of a list of tasks and of a program, every block of it known whole. -/
namespace Go.Proofs.Ytlinpefeojpjnaa.prg
open Go Go.ChangeShapes Go.WideShapes Go.ChangeAt Go.RowKit Go.Proofs.Ytlinpefeojpjnaa.row Go.Proofs.Ytlinpefeojpjnaa.val Go.Proofs.Ytlinpefeojpjnaa.expr Go.Proofs.Ytlinpefeojpjnaa.stm Go.Proofs.Ytlinpefeojpjnaa.blk

/-- The first 'k' tasks lie in these cells, the statements of each in a block behind 'G', known whole. -/
def PrefX (w : World) (P : List Tk) (G : Nat) (cs : Array Value) (k : Nat) : Prop :=
  ∀ j, j < k → ∃ (t : Tk) (g : Nat), P[j]? = some t ∧ (∀ i v, (tkC (some ⟨g, 0, none⟩) t.b.length t.b.length t)[i]? = some v → cs[j * 4 + i]? = some v) ∧ G < g ∧ Box g (stsC t.b).toArray 87 w
theorem PrefX.zero (w : World) (P : List Tk) (G : Nat) (cs : Array Value) : PrefX w P G cs 0 := fun j h => by omega
theorem PrefX.below {w w' : World} {P : List Tk} {G : Nat} {cs : Array Value} {k : Nat} (h : PrefX w P G cs k) (hb : Below w.heap.size w w') : PrefX w' P G cs k := fun j hj => by
  obtain ⟨t, g, h1, h2, h3, h4⟩ := h j hj
  exact ⟨t, g, h1, h2, h3, h4.below hb⟩
theorem PrefX.grown {w w' : World} {P : List Tk} {G : Nat} {cs : Array Value} {k : Nat} (h : PrefX w P G cs k) (hg : w.grownBy w' (some G)) : PrefX w' P G cs k := fun j hj => by
  obtain ⟨t, g, h1, h2, h3, h4⟩ := h j hj
  exact ⟨t, g, h1, h2, h3, h4.grown hg (fun e => by have := Option.some.inj e; omega)⟩
theorem PrefX.next {w : World} {P : List Tk} {G : Nat} {cs : Array Value} {k g : Nat} {t : Tk} (h : PrefX w P G cs k) (ht : P[k]? = some t) (hs : k * 4 + 4 ≤ cs.size) (hne : G < g) (hr : Box g (stsC t.b).toArray 87 w) :
    PrefX w P G (setAll cs (k * 4) (tkC (some ⟨g, 0, none⟩) t.b.length t.b.length t)) (k + 1) := fun j hj => by
  by_cases e : j = k
  · subst e
    refine ⟨t, g, ht, fun i v hv => ?_, hne, hr⟩
    have hi : i < 4 := by have := (List.getElem?_eq_some_iff.1 hv).1; simpa [tkC] using this
    rw [setAll_in _ _ _ i (by simpa [tkC] using hi) (by omega)]; exact hv
  · obtain ⟨t', g', h1, h2, h3, h4⟩ := h j (by omega)
    refine ⟨t', g', h1, fun i v hv => ?_, h3, h4⟩
    have hi : i < 4 := by have := (List.getElem?_eq_some_iff.1 hv).1; simpa [tkC] using this
    rw [setAll_out _ _ _ _ (by left; omega)]; exact h2 i v hv
/-- A program's tasks in blocks from 'lo' on, each block known whole. -/
def PrgX (lo : Nat) (w : World) (a : Option Addr) (n : Nat) (P : List Tk) : Prop :=
  P.length = n ∧ ∃ (g : Nat) (cs : Array Value), a = some ⟨g, 0, none⟩ ∧ lo ≤ g ∧ Box g cs 65 w ∧ cs.size = n * 4 ∧ PrefX w P g cs n
theorem PrgX.from {lo : Nat} {w : World} {a : Option Addr} {n : Nat} {P : List Tk} (h : PrgX lo w a n P) : TkFrom lo w a n P := by
  obtain ⟨hl, g, cs, rfl, hlo, hb, _, hP⟩ := h
  refine ⟨hl, fun k hk => ?_⟩
  obtain ⟨t, b, h1, h2, h3, h4⟩ := hP k hk
  exact ⟨g, t, b, t.b.length, t.b.length, rfl, hlo, hb.lt, h1, fun j v hj => by rw [hb.cell]; exact h2 j v hj, Nat.le_refl _, by omega, StRow.of_box' h4 rfl⟩
theorem PrgX.row {lo : Nat} {w : World} {a : Option Addr} {n : Nat} {P : List Tk} (h : PrgX lo w a n P) : TkRow w a n P := h.from.row
theorem PrgX.mono {lo lo' : Nat} {w : World} {a : Option Addr} {n : Nat} {P : List Tk} (h : PrgX lo w a n P) (hl : lo' ≤ lo) : PrgX lo' w a n P := by
  obtain ⟨h1, g, cs, h2, h3, h4⟩ := h
  exact ⟨h1, g, cs, h2, Nat.le_trans hl h3, h4⟩
theorem PrgX.below {lo : Nat} {w w' : World} {a : Option Addr} {n : Nat} {P : List Tk} (h : PrgX lo w a n P) (hb : Below w.heap.size w w') : PrgX lo w' a n P := by
  obtain ⟨h1, g, cs, h2, h3, h4, h5, h6⟩ := h
  exact ⟨h1, g, cs, h2, h3, h4.below hb, h5, h6.below hb⟩
theorem PrgX.grown {lo : Nat} {w w' : World} {a : Option Addr} {n G : Nat} {P : List Tk} (h : PrgX lo w a n P) (hg : w.grownBy w' (some G)) (hG : G < lo) : PrgX lo w' a n P := by
  obtain ⟨h1, g, cs, h2, h3, h4, h5, h6⟩ := h
  exact ⟨h1, g, cs, h2, h3, h4.grown hg (fun e => by have := Option.some.inj e; omega), h5, fun j hj => by
    obtain ⟨t, b, q1, q2, q3, q4⟩ := h6 j hj
    exact ⟨t, b, q1, q2, q3, q4.grown hg (fun e => by have := Option.some.inj e; omega)⟩⟩
theorem PrefX.row {w : World} {P : List Tk} {cs : Array Value} {g n : Nat} (h : PrefX w P g cs n) (hl : P.length = n) (hs : cs.size = n * 4) (hb : Box g cs 65 w) : PrgX g w (some ⟨g, 0, none⟩) n P :=
  ⟨hl, g, cs, rfl, Nat.le_refl _, hb, hs, h⟩
/-- A copy of the list of tasks in new memory. -/
def MadeTksX (w : World) (n : Nat) (P : List Tk) (e : Ending) (w' : World) : Prop :=
  ∃ a' : Option Addr, e = .returned (.slice a' n n) ∧ Hid (PrgX w.heap.size w' a' n P) ∧ Below w.heap.size w w'
/-- A copy of the program in new memory. -/
def MadePrgX (w : World) (n : Nat) (P : List Tk) (e : Ending) (w' : World) : Prop :=
  ∃ a' : Option Addr, e = .returned (.agg #[.slice a' n n]) ∧ Hid (PrgX w.heap.size w' a' n P) ∧ Below w.heap.size w w'
end Go.Proofs.Ytlinpefeojpjnaa.prg

/- The law's marks in a program of its own, of any size: which blocks are written, and that the number is no less than nothing. -/
namespace Go.Proofs.Ytlinpefeojpjnaa.mrk
open Go Go.ChangeShapes Go.WideShapes Go.ChangeAt Go.RowKit Go.Proofs.Ytlinpefeojpjnaa.row Go.Proofs.Ytlinpefeojpjnaa.stm Go.Proofs.Ytlinpefeojpjnaa.prg

/-- A list of tasks in blocks from 'lo' to 'hi', each known whole: its sizes alone. -/
def MkX (lo hi : Nat) (w : World) (g n : Nat) (L : List Nat) : Prop :=
  L.length = n ∧ lo ≤ g ∧ ∃ cs : Array Value, Box g cs 65 w ∧ cs.size = n * 4 ∧ ∀ j, j < n → ∃ (m b c : Nat) (csb : Array Value), L[j]? = some m ∧ cs[j * 4]? = some (.slice (some ⟨b, 0, none⟩) m c) ∧ lo ≤ b ∧ b ≠ g ∧ b < hi ∧ Box b csb 87 w ∧ m * 6 ≤ csb.size
theorem box_one {g : Nat} {cs cs' : Array Value} {t t' : TypeId} {w : World} (h : Box g cs t w) (h' : Box g cs' t' w) : cs = cs' := by
  unfold Box at h h'
  rw [h] at h'
  injection h' with h'
  injection h'
theorem MkX.below {lo hi g n : Nat} {w w' : World} {L : List Nat} (h : MkX lo hi w g n L) (hb : Below w.heap.size w w') : MkX lo hi w' g n L := by
  obtain ⟨h1, h2, cs, h3, h4, h5⟩ := h
  refine ⟨h1, h2, cs, h3.below hb, h4, fun j hj => ?_⟩
  obtain ⟨m, b, c, csb, q1, q2, q3, q4, q5, q6, q7⟩ := h5 j hj
  exact ⟨m, b, c, csb, q1, q2, q3, q4, q5, q6.below hb, q7⟩
theorem MkX.body {lo hi g n b : Nat} {w w' : World} {L : List Nat} (h : MkX lo hi w g n L) (hg : w.grownBy w' (some b)) (hne : b ≠ g) {csb csb' : Array Value} (h0 : Box b csb 87 w) (h1 : Box b csb' 87 w') (hs : csb'.size = csb.size) : MkX lo hi w' g n L := by
  obtain ⟨q1, q2, cs, q3, q4, q5⟩ := h
  refine ⟨q1, q2, cs, q3.grown hg (fun e => hne (Option.some.inj e).symm), q4, fun j hj => ?_⟩
  obtain ⟨m, b', c, cb', p1, p2, p3, p4, p5, p6, p7⟩ := q5 j hj
  by_cases e : b' = b
  · subst e
    have e2 := box_one p6 h0
    exact ⟨m, b', c, csb', p1, p2, p3, p4, p5, h1, by rw [hs, ← e2]; exact p7⟩
  · exact ⟨m, b', c, cb', p1, p2, p3, p4, p5, p6.grown hg (fun e9 => e (Option.some.inj e9)), p7⟩
theorem MkX.step {lo hi g n m : Nat} {w w' : World} {L : List Nat} {cs : Array Value} {x y z : Value} (h : MkX lo hi w g n L) (h0 : Box g cs 65 w) (hg : w.grownBy w' (some g)) (hb : Box g (setAll cs (m * 4 + 1) [x, y, z]) 65 w') : MkX lo hi w' g n L := by
  obtain ⟨q1, q2, cs', q3, q4, q5⟩ := h
  obtain rfl := box_one q3 h0
  refine ⟨q1, q2, _, hb, by rw [setAll_size]; exact q4, fun j hj => ?_⟩
  obtain ⟨k, b', c, cb', p1, p2, p3, p4, p5, p6, p7⟩ := q5 j hj
  exact ⟨k, b', c, cb', p1, by rw [setAll_out _ _ _ _ (by simp; omega)]; exact p2, p3, p4, p5, p6.grown hg (fun e9 => p4 (Option.some.inj e9)), p7⟩
theorem Far.below {lo hi : Nat} {w w' w'' : World} (h : Below lo w w' ∧ Far hi w w') (hb : Below w'.heap.size w' w'') (hlo : lo ≤ w'.heap.size) (hs : w.heap.size ≤ w'.heap.size) : Below lo w w'' ∧ Far hi w w'' :=
  ⟨h.1.trans (hb.mono hlo), fun b hb1 hb2 => (hb.block b (by omega)).trans (h.2 b hb1 hb2)⟩
/-- A copy of the law's own, its blocks in bounds. -/
theorem mk_of {lo n : Nat} {w : World} {a : Option Addr} {P : List Tk} (h : PrgX lo w a n P) : ∃ g, a = some ⟨g, 0, none⟩ ∧ g < w.heap.size ∧ MkX lo w.heap.size w g n (P.map fun t => t.b.length) := by
  obtain ⟨hl, g, cs, rfl, hlo, hb, hs, hP⟩ := h
  refine ⟨g, rfl, hb.lt, by simpa using hl, hlo, cs, hb, hs, fun j hj => ?_⟩
  obtain ⟨t, b, h1, h2, h3, h4⟩ := hP j hj
  exact ⟨t.b.length, b, t.b.length, _, by simp [h1], by have := h2 0 _ (by rfl); simpa using this, by omega, by omega, h4.lt, h4, by simp [stsC_len]⟩
end Go.Proofs.Ytlinpefeojpjnaa.mrk

/- The law's marks in a row of numbers, from any number on; what a program's marks leave as it was. -/
namespace Go.Proofs.Ytlinpefeojpjnaa.mrk
open Go Go.ChangeShapes Go.WideShapes Go.ChangeAt Go.RowKit Go.Proofs.Ytlinpefeojpjnaa.row Go.Proofs.Ytlinpefeojpjnaa.stm Go.Proofs.Ytlinpefeojpjnaa.prg

theorem own_far {w w' : World} {base sz n lo hi : Nat} {e : TypeId} {v : Value} {xs : List Value} (h : w.ownsRow base e sz v n xs) (hbf : Below lo w w' ∧ Far hi w w') (hv : ∀ q, v.ownBlock = some q → q < lo ∨ hi ≤ q) : w'.ownsRow base e sz v n xs := by
  refine ⟨h.1, ?_⟩
  rcases h.2 with hn | ⟨g, cap, cur, rfl, hb, hgg, rest⟩
  · exact .inl hn
  · refine .inr ⟨g, cap, cur, rfl, hb, ?_, rest⟩
    have hlt := (Array.getElem?_eq_some_iff.1 hgg).1
    rcases hv g rfl with h1 | h1
    · rw [hbf.1.block g h1]; exact hgg
    · rw [hbf.2 g h1 hlt]; exact hgg
theorem box_far {w w' : World} {g lo hi : Nat} {cs : Array Value} {t : TypeId} (h : Box g cs t w) (hbf : Below lo w w' ∧ Far hi w w') (hv : g < lo ∨ hi ≤ g) : Box g cs t w' := by
  unfold Box at h ⊢
  rcases hv with h1 | h1
  · rw [hbf.1.block g h1]; exact h
  · rw [hbf.2 g h1 (Array.getElem?_eq_some_iff.1 h).1]; exact h
end Go.Proofs.Ytlinpefeojpjnaa.mrk

/- The law's comparison of two effects, its marks in an effect of its own and its look at them. -/
namespace Go.Proofs.Ytlinpefeojpjnaa.exe
open Go Go.ChangeShapes Go.WideShapes Go.ChangeAt Go.RowKit Go.Proofs.Ytlinpefeojpjnaa.row Go.Proofs.Ytlinpefeojpjnaa.val Go.Proofs.Ytlinpefeojpjnaa.expr Go.Proofs.Ytlinpefeojpjnaa.mrk

theorem okn (ad : Option Addr) (n c : Nat) : (Value.slice ad n c).ownBlock = none ∨ (Value.slice ad n c).ownBlock ≠ none := by cases ad <;> simp [Value.ownBlock]
theorem bf_own {lo hi : Nat} {w wr w' : World} {r : Option Nat} (h : Below lo w wr ∧ Far hi w wr) (hs : w.heap.size ≤ wr.heap.size) (hlo : lo ≤ w.heap.size) (hg : wr.grownBy w' r) (hr : ∀ q, r = some q → lo ≤ q ∧ q < hi) : Below lo w w' ∧ Far hi w w' :=
  ⟨h.1.grown hg (Nat.le_trans hlo hs) (fun q hq => (hr q hq).1), fun b hb hbw => (hg.block b (by omega) (fun e => by have := (hr b e.symm).2; omega)).trans (h.2 b hb hbw)⟩
end Go.Proofs.Ytlinpefeojpjnaa.exe

/- The law's comparison of two references, its marks in a reference of its own and its look at them. -/
namespace Go.Proofs.Ytlinpefeojpjnaa.ref
open Go Go.ChangeShapes Go.WideShapes Go.ChangeAt Go.RowKit Go.Proofs.Ytlinpefeojpjnaa.row Go.Proofs.Ytlinpefeojpjnaa.val Go.Proofs.Ytlinpefeojpjnaa.expr Go.Proofs.Ytlinpefeojpjnaa.mrk Go.Proofs.Ytlinpefeojpjnaa.exe

set_option maxHeartbeats 4000000 in
theorem eqref_any (w : World) (E : Rf) (a1 : Option Addr) (n1 c1 : Nat) (a2 : Option Addr) (n2 c2 : Nat) (b1 : Option Addr) (d1 : Nat) (b2 : Option Addr) (d2 : Nat) (hn1 : (n1 : Int) ≤ 1048576) (hn2 : (n2 : Int) ≤ 1048576)
    (r1 : Row w a1 n1 E.V) (r2 : Row w a2 n2 E.S) (s1 : Row w b1 n1 E.V) (s2 : Row w b2 n2 E.S) :
    Calls Try.prog 10 #[refV a1 n1 c1 a2 n2 c2 E, refV b1 n1 d1 b2 n2 d2 E] w (BelB w true) := by
  obtain ⟨V, S, T⟩ := E
  show Calls Try.prog 10 #[.agg #[.slice a1 n1 c1, .slice a2 n2 c2, .int .i64 T], .agg #[.slice b1 n1 d1, .slice b2 n2 d2, .int .i64 T]] w (BelB w true)
  obtain ⟨W, hW⟩ : ∃ W, (w.alloc (.cells #[.slice a1 n1 c1, .slice a2 n2 c2, .int .i64 T] 27)).alloc (.cells #[.slice b1 n1 d1, .slice b2 n2 d2, .int .i64 T] 27) = W := ⟨_, rfl⟩
  have hBW : Below w.heap.size w W := by rw [← hW]; exact below_then (below_new w _) (below_new _ _)
  have hx : Box w.heap.size #[.slice a1 n1 c1, .slice a2 n2 c2, .int .i64 T] 27 W := by rw [← hW]; exact (Box.new w _ _).alloc _
  have hy : Box (w.heap.size + 1) #[.slice b1 n1 d1, .slice b2 n2 d2, .int .i64 T] 27 W := by
    have h9 := Box.new (w.alloc (.cells #[.slice a1 n1 c1, .slice a2 n2 c2, .int .i64 T] 27)) #[.slice b1 n1 d1, .slice b2 n2 d2, .int .i64 T] 27
    rw [World.size_alloc] at h9
    rw [← hW]; exact h9
  have H0 := Lib.hid (And.intro hBW (And.intro (r1.below hBW) (And.intro (r2.below hBW) (And.intro (s1.below hBW) (s2.below hBW)))))
  have x0 : W.cell? ⟨w.heap.size, 0, none⟩ = some (.slice a1 n1 c1) := hx.cell 0
  have y0 : W.cell? ⟨w.heap.size + 1, 0, none⟩ = some (.slice b1 n1 d1) := hy.cell 0
  have HX := Lib.hid (And.intro hx hy)
  clear hBW r1 r2 s1 s2 hx hy
  go_enter Try.func10, Try.ntmps10
  go_wp2_with (go_at_call 22; (with_reducible refine (eqInts_any _ a1 b1 n1 c1 d1 V hn1 H0.out.2.1 H0.out.2.2.2.1).mono ?_); rintro e w2 ⟨rfl, hg2⟩; refine Hid.out ?_)
  have hb2 : Below W.heap.size W w2 := (Below.refl _ W).grown hg2 (Nat.le_refl _) (fun k hk => by cases hk)
  have hX2 := HX.out.1.below hb2
  have hY2 := HX.out.2.below hb2
  have H2 := Lib.hid (And.intro (below_then H0.out.1 hb2) (And.intro (H0.out.2.2.1.below hb2) (H0.out.2.2.2.2.below hb2)))
  have x1 : w2.cell? ⟨w.heap.size, 1, none⟩ = some (.slice a2 n2 c2) := hX2.cell 1
  have y1 : w2.cell? ⟨w.heap.size + 1, 1, none⟩ = some (.slice b2 n2 d2) := hY2.cell 1
  have HX2 := Lib.hid (And.intro hX2 hY2)
  clear hg2 hb2 x0 y0 hX2 hY2
  refine Lib.hid ?_
  go_wp2_with (go_at_call 22; (with_reducible refine (eqInts_any _ a2 b2 n2 c2 d2 S hn2 H2.out.2.1 H2.out.2.2).mono ?_); rintro e w3 ⟨rfl, hg3⟩; refine Hid.out ?_)
  have hb3 : Below w2.heap.size w2 w3 := (Below.refl _ w2).grown hg3 (Nat.le_refl _) (fun k hk => by cases hk)
  have hX3 := HX2.out.1.below hb3
  have hY3 := HX2.out.2.below hb3
  have x2 : w3.cell? ⟨w.heap.size, 2, none⟩ = some (.int .i64 T) := hX3.cell 2
  have y2 : w3.cell? ⟨w.heap.size + 1, 2, none⟩ = some (.int .i64 T) := hY3.cell 2
  have HB3 := Lib.hid (below_then H2.out.1 hb3)
  clear hg3 hb3 x1 y1 hX3 hY3
  refine Lib.hid ?_
  go_wp2
  go_ret
  exact ⟨rfl, HB3.out⟩
end Go.Proofs.Ytlinpefeojpjnaa.ref
