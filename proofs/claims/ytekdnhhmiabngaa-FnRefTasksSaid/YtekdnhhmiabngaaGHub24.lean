/- Several texts in one: Rss. -/
import Derived.Test.YtekdnhhmiabngaaGHub0
import Derived.Laws.AppendOwn

/- A struct in one block that holds rows of its own, each in new memory and apart from the others: what stays, and what turns, where one of them is written. -/
namespace Go.Proofs.Ytekdnhhmiabngaa.rss
open Go Go.ChangeShapes Go.WideShapes Go.ChangeAt Go.RowKit Go.Proofs.Ytekdnhhmiabngaa.row

/-- A row: the slice, how many elements, the cells, the element's type and size. -/
structure RS where
  (v : Value) (n : Nat) (xs : List Value) (e : TypeId) (s : Nat)
abbrev Own (r : RS) (B : Nat) (w : World) : Prop := w.ownsRow B r.e r.s r.v r.n r.xs
/-- No block stands in two places. -/
def Sep (l : List (Option Nat)) : Prop := ∀ (i j b : Nat), l[i]? = some (some b) → l[j]? = some (some b) → i = j
theorem Sep.set {l : List (Option Nat)} (h : Sep l) {N : Nat} (hb : ∀ (j b : Nat), l[j]? = some (some b) → b < N) (i : Nat) {x : Option Nat} (hx : l[i]? = some x ∨ ∀ b, x = some b → N ≤ b) : Sep (l.set i x) := by
  intro p q b hp hq
  rw [List.getElem?_set] at hp hq
  by_cases h1 : i = p <;> by_cases h2 : i = q
  · omega
  · rw [if_pos h1] at hp; rw [if_neg h2] at hq
    split at hp
    · have hxb : x = some b := Option.some.inj hp
      rcases hx with hx | hx
      · rw [hxb] at hx; have := h i q b hx hq; omega
      · have := hx b hxb; have := hb q b hq; omega
    · cases hp
  · rw [if_neg h1] at hp; rw [if_pos h2] at hq
    split at hq
    · have hxb : x = some b := Option.some.inj hq
      rcases hx with hx | hx
      · rw [hxb] at hx; have := h p i b hp hx; omega
      · have := hx b hxb; have := hb p b hp; omega
    · cases hq
  · rw [if_neg h1] at hp; rw [if_neg h2] at hq
    exact h p q b hp hq
abbrev blks (g : Nat) (l : List RS) : List (Option Nat) := some g :: l.map fun r => r.v.ownBlock
structure RsAt (B g : Nat) (l : List RS) (w : World) : Prop where
  low : B ≤ g
  lt : g < w.heap.size
  own : ∀ (j : Nat) (r : RS), l[j]? = some r → Own r B w
  sep : Sep (blks g l)
theorem blks_at {g : Nat} {l : List RS} {j : Nat} {r : RS} (h : l[j]? = some r) : (blks g l)[j + 1]? = some r.v.ownBlock := by simp [h]
theorem RsAt.bound {B g : Nat} {l : List RS} {w : World} (h : RsAt B g l w) : ∀ (j b : Nat), (blks g l)[j]? = some (some b) → b < w.heap.size
  | 0, b, e => by
    have : some g = some b := Option.some.inj e
    cases this; exact h.lt
  | j + 1, b, e => by
    have e' : (l.map fun r => r.v.ownBlock)[j]? = some (some b) := e
    rw [List.getElem?_map] at e'
    cases hr : l[j]? with
    | none => rw [hr] at e'; cases e'
    | some r =>
      rw [hr] at e'
      exact ((h.own j r hr).lt b (Option.some.inj e')).2
theorem RsAt.ne_g {B g : Nat} {l : List RS} {w : World} (h : RsAt B g l w) {j : Nat} {r : RS} (hr : l[j]? = some r) : r.v.ownBlock ≠ some g := fun e => by
  have := h.sep 0 (j + 1) g rfl (by rw [blks_at hr, e])
  omega
theorem RsAt.apart {B g : Nat} {l : List RS} {w : World} (h : RsAt B g l w) {i j : Nat} {r r' : RS} (hr : l[i]? = some r) (hr' : l[j]? = some r') (hij : i ≠ j) : r.v.ownBlock = none ∨ r.v.ownBlock ≠ r'.v.ownBlock := by
  cases e : r.v.ownBlock with
  | none => exact .inl rfl
  | some b =>
    right
    intro e2
    have := h.sep (i + 1) (j + 1) b (by rw [blks_at hr, e]) (by rw [blks_at hr', ← e2])
    omega
theorem RsAt.below {B g : Nat} {l : List RS} {w w' : World} (h : RsAt B g l w) (hb : Below w.heap.size w w') : RsAt B g l w' :=
  ⟨h.low, Nat.lt_of_lt_of_le h.lt hb.size, fun j r hr => (h.own j r hr).kept (grown_below hb none) (by cases r.v.ownBlock <;> simp), h.sep⟩
/-- The block itself is written. -/
theorem RsAt.put {B g : Nat} {l : List RS} {w w' : World} (h : RsAt B g l w) (hg : w.grownBy w' (some g)) : RsAt B g l w' :=
  ⟨h.low, Nat.lt_of_lt_of_le h.lt hg.size, fun j r hr => (h.own j r hr).kept hg (.inr (h.ne_g hr)), h.sep⟩
/-- One row is written or has moved. -/
theorem RsAt.grow {B g : Nat} {l : List RS} {w w' : World} (h : RsAt B g l w) {i : Nat} {r r' : RS} (hi : l[i]? = some r) (hg : w.grownBy w' r.v.ownBlock) (ho : Own r' B w') (hat : r'.v.ownBlock = r.v.ownBlock ∨ ∀ b, r'.v.ownBlock = some b → w.heap.size ≤ b) : RsAt B g (l.set i r') w' := by
  have hil := (List.getElem?_eq_some_iff.1 hi).1
  refine ⟨h.low, Nat.lt_of_lt_of_le h.lt hg.size, fun j q hq => ?_, ?_⟩
  · rw [List.getElem?_set] at hq
    by_cases hij : i = j
    · rw [if_pos hij, if_pos hil] at hq
      cases hq; exact ho
    · rw [if_neg hij] at hq
      exact (h.own j q hq).kept hg (h.apart hq hi (fun e => hij e.symm))
  · have e : blks g (l.set i r') = (blks g l).set (i + 1) r'.v.ownBlock := by simp [blks, List.map_set]
    rw [e]
    exact h.sep.set h.bound (i + 1) (hat.imp (fun e => by rw [blks_at hi, e]) id)
/-- From 'w' to 'w'' only these blocks and new ones are written; the blocks that are held then are of these or new. -/
structure Mv (l : List (Option Nat)) (w : World) (l' : List (Option Nat)) (w' : World) : Prop where
  os : w'.os = w.os
  tape : w'.tape = w.tape
  output : w'.output = w.output
  size : w.heap.size ≤ w'.heap.size
  block : ∀ b, b < w.heap.size → (∀ j : Nat, l[j]? ≠ some (some b)) → w'.heap[b]? = w.heap[b]?
  sub : ∀ (j b : Nat), l'[j]? = some (some b) → b < w.heap.size → ∃ i : Nat, l[i]? = some (some b)
theorem Mv.refl (l : List (Option Nat)) (w : World) : Mv l w l w := ⟨rfl, rfl, rfl, Nat.le_refl _, fun _ _ _ => rfl, fun j _ h _ => ⟨j, h⟩⟩
theorem Mv.trans {l l' l2 : List (Option Nat)} {w w' w2 : World} (h : Mv l w l' w') (k : Mv l' w' l2 w2) : Mv l w l2 w2 :=
  ⟨k.os.trans h.os, k.tape.trans h.tape, k.output.trans h.output, Nat.le_trans h.size k.size,
    fun b hb hn => (k.block b (Nat.lt_of_lt_of_le hb h.size) (fun j e => by obtain ⟨i, hi⟩ := h.sub j b e hb; exact hn i hi)).trans (h.block b hb hn),
    fun j b e hb => by obtain ⟨i, hi⟩ := k.sub j b e (Nat.lt_of_lt_of_le hb h.size); exact h.sub i b hi hb⟩
theorem Mv.of_below {w w' : World} (l : List (Option Nat)) (hb : Below w.heap.size w w') : Mv l w l w' := ⟨hb.os, hb.tape, hb.output, hb.size, fun b h _ => hb.block b h, fun j _ h _ => ⟨j, h⟩⟩
theorem Mv.of_grown {l : List (Option Nat)} {w w' : World} {i : Nat} {o : Option Nat} (hi : l[i]? = some o) (hg : w.grownBy w' o) {x : Option Nat} (hx : x = o ∨ ∀ b, x = some b → w.heap.size ≤ b) : Mv l w (l.set i x) w' :=
  ⟨hg.os, hg.tape, hg.output, hg.size, fun b hb hn => hg.block b hb (fun e => hn i (by rw [hi, ← e])), fun j b e hb => by
    rw [List.getElem?_set] at e
    by_cases hij : i = j
    · rw [if_pos hij] at e
      split at e
      · have hxb : x = some b := Option.some.inj e
        rcases hx with hx | hx
        · exact ⟨i, by rw [hi, ← hx, hxb]⟩
        · have := hx b hxb; omega
      · cases e
    · rw [if_neg hij] at e; exact ⟨j, e⟩⟩
theorem Mv.below {l l' : List (Option Nat)} {w w' : World} (h : Mv l w l' w') {B : Nat} (hl : ∀ (j b : Nat), l[j]? = some (some b) → B ≤ b) (hB : B ≤ w.heap.size) : Below B w w' :=
  ⟨h.os, h.tape, h.output, h.size, fun b hb => h.block b (by omega) (fun j e => by have := hl j b e; omega)⟩
theorem RsAt.base {B g : Nat} {l : List RS} {w : World} (h : RsAt B g l w) : ∀ (j b : Nat), (blks g l)[j]? = some (some b) → B ≤ b
  | 0, b, e => by
    have : some g = some b := Option.some.inj e
    cases this; exact h.low
  | j + 1, b, e => by
    have e' : (l.map fun r => r.v.ownBlock)[j]? = some (some b) := e
    rw [List.getElem?_map] at e'
    cases hr : l[j]? with
    | none => rw [hr] at e'; cases e'
    | some r =>
      rw [hr] at e'
      exact ((h.own j r hr).lt b (Option.some.inj e')).1
/-- A block that is none of these stays. -/
theorem Mv.box {l l' : List (Option Nat)} {w w' : World} (h : Mv l w l' w') {q : Nat} {cs : Array Value} {t : TypeId} (hx : Box q cs t w) (hn : ∀ j : Nat, l[j]? ≠ some (some q)) : Box q cs t w' := (h.block q hx.lt hn).trans hx
/-- A block that lay before stays apart. -/
theorem Mv.out {l l' : List (Option Nat)} {w w' : World} (h : Mv l w l' w') {q : Nat} (hq : q < w.heap.size) (hn : ∀ j : Nat, l[j]? ≠ some (some q)) : ∀ j : Nat, l'[j]? ≠ some (some q) := fun j e => by
  obtain ⟨i, hi⟩ := h.sub j q e hq
  exact hn i hi
/-- One row is written or has moved, and then the block: what the struct holds. -/
theorem RsAt.app {B g : Nat} {l : List RS} {w w' : World} {cs : Array Value} {t : TypeId} (h : RsAt B g l w) (hx : Box g cs t w) {i : Nat} {r r' : RS} (hi : l[i]? = some r) (hg : w.grownBy w' r.v.ownBlock) (ho : Own r' B w') (hat : r'.v.ownBlock = r.v.ownBlock ∨ ∀ b, r'.v.ownBlock = some b → w.heap.size ≤ b) (c : Nat) (u : Value) :
    RsAt B g (l.set i r') (w'.setCell ⟨g, c, none⟩ u) ∧ Box g (cs.setIfInBounds c u) t (w'.setCell ⟨g, c, none⟩ u) ∧ Mv (blks g l) w (blks g (l.set i r')) (w'.setCell ⟨g, c, none⟩ u) ∧ Box g cs t w' := by
  have hx' := hx.grown hg (fun e => h.ne_g hi e.symm)
  have e : blks g (l.set i r') = (blks g l).set (i + 1) r'.v.ownBlock := by simp [blks, List.map_set]
  refine ⟨(h.grow hi hg ho hat).put (grown_setCell w' g c u), hx'.set c u, ?_, hx'⟩
  have m1 : Mv (blks g l) w (blks g (l.set i r')) w' := by rw [e]; exact Mv.of_grown (blks_at hi) hg hat
  have m2 := Mv.of_grown (l := blks g (l.set i r')) (i := 0) (o := some g) rfl (grown_setCell w' g c u) (x := some g) (.inl rfl)
  exact m1.trans m2
/-- A cell of a row is written. -/
theorem RsAt.cellset {B g : Nat} {l : List RS} {w w' : World} {cs : Array Value} {t : TypeId} (h : RsAt B g l w) (hx : Box g cs t w) {i : Nat} {r r' : RS} (hi : l[i]? = some r) (hg : w.grownBy w' r.v.ownBlock) (ho : Own r' B w') (hv : r'.v = r.v) :
    RsAt B g (l.set i r') w' ∧ Box g cs t w' ∧ Mv (blks g l) w (blks g (l.set i r')) w' := by
  have e : blks g (l.set i r') = (blks g l).set (i + 1) r'.v.ownBlock := by simp [blks, List.map_set]
  refine ⟨h.grow hi hg ho (.inl (by rw [hv])), hx.grown hg (fun e => h.ne_g hi e.symm), ?_⟩
  rw [e]
  exact Mv.of_grown (blks_at hi) hg (.inl (by rw [hv]))
end Go.Proofs.Ytekdnhhmiabngaa.rss
