/- Several texts in one: Rss ExeT EvalC. -/
import Derived.Test.YtlicadaecfgklaaGreatDoorGSig0
import Derived.Test.YtlicadaecfgklaaGreatDoorGSig3
import Derived.Laws.AppendOwn
import Derived.Test.YtlicadaecfgklaaGreatDoorGSig6
import Derived.Deep.AppendLies
import Derived.Test.YtlicadaecfgklaaGreatDoorGSig2
import Derived.Deep.QuietTactic
import Derived.BigQuiet

/- A struct in one block that holds rows of its own, each in new memory and apart from the others: what stays, and what turns, where one of them is written. -/
namespace Go.Proofs.YtlicadaecfgklaaGreatDoor.rss
open Go Go.ChangeShapes Go.WideShapes Go.ChangeAt Go.RowKit Go.Proofs.YtlicadaecfgklaaGreatDoor.row

/-- A row: the slice, how many elements, the cells, the element's type and size. -/
structure RS where
  (v : Value) (n : Nat) (xs : List Value) (e : TypeId) (s : Nat)
abbrev Own (r : RS) (B : Nat) (w : World) : Prop := w.ownsRow B r.e r.s r.v r.n r.xs
/-- No block stands in two places. -/
def Sep (l : List (Option Nat)) : Prop := ∀ (i j b : Nat), l[i]? = some (some b) → l[j]? = some (some b) → i = j
theorem Sep.set {l : List (Option Nat)} (h : Sep l) {N : Nat} (hb : ∀ (j b : Nat), l[j]? = some (some b) → b < N) (i : Nat) {x : Option Nat} (hx : l[i]? = some x ∨ ∀ b, x = some b → N ≤ b) : Sep (l.set i x) := by
  intro p q b hp hq
  rw [List.getElem?_set] at hp hq
  by_cases h1 : i = p <;> by_cases h2 : i = q
  · omega
  · rw [if_pos h1] at hp; rw [if_neg h2] at hq
    split at hp
    · have hxb : x = some b := Option.some.inj hp
      rcases hx with hx | hx
      · rw [hxb] at hx; have := h i q b hx hq; omega
      · have := hx b hxb; have := hb q b hq; omega
    · cases hp
  · rw [if_neg h1] at hp; rw [if_pos h2] at hq
    split at hq
    · have hxb : x = some b := Option.some.inj hq
      rcases hx with hx | hx
      · rw [hxb] at hx; have := h p i b hp hx; omega
      · have := hx b hxb; have := hb p b hp; omega
    · cases hq
  · rw [if_neg h1] at hp; rw [if_neg h2] at hq
    exact h p q b hp hq
abbrev blks (g : Nat) (l : List RS) : List (Option Nat) := some g :: l.map fun r => r.v.ownBlock
structure RsAt (B g : Nat) (l : List RS) (w : World) : Prop where
  low : B ≤ g
  lt : g < w.heap.size
  own : ∀ (j : Nat) (r : RS), l[j]? = some r → Own r B w
  sep : Sep (blks g l)
theorem blks_at {g : Nat} {l : List RS} {j : Nat} {r : RS} (h : l[j]? = some r) : (blks g l)[j + 1]? = some r.v.ownBlock := by simp [h]
theorem RsAt.bound {B g : Nat} {l : List RS} {w : World} (h : RsAt B g l w) : ∀ (j b : Nat), (blks g l)[j]? = some (some b) → b < w.heap.size
  | 0, b, e => by
    have : some g = some b := Option.some.inj e
    cases this; exact h.lt
  | j + 1, b, e => by
    have e' : (l.map fun r => r.v.ownBlock)[j]? = some (some b) := e
    rw [List.getElem?_map] at e'
    cases hr : l[j]? with
    | none => rw [hr] at e'; cases e'
    | some r =>
      rw [hr] at e'
      exact ((h.own j r hr).lt b (Option.some.inj e')).2
theorem RsAt.ne_g {B g : Nat} {l : List RS} {w : World} (h : RsAt B g l w) {j : Nat} {r : RS} (hr : l[j]? = some r) : r.v.ownBlock ≠ some g := fun e => by
  have := h.sep 0 (j + 1) g rfl (by rw [blks_at hr, e])
  omega
theorem RsAt.apart {B g : Nat} {l : List RS} {w : World} (h : RsAt B g l w) {i j : Nat} {r r' : RS} (hr : l[i]? = some r) (hr' : l[j]? = some r') (hij : i ≠ j) : r.v.ownBlock = none ∨ r.v.ownBlock ≠ r'.v.ownBlock := by
  cases e : r.v.ownBlock with
  | none => exact .inl rfl
  | some b =>
    right
    intro e2
    have := h.sep (i + 1) (j + 1) b (by rw [blks_at hr, e]) (by rw [blks_at hr', ← e2])
    omega
theorem RsAt.below {B g : Nat} {l : List RS} {w w' : World} (h : RsAt B g l w) (hb : Below w.heap.size w w') : RsAt B g l w' :=
  ⟨h.low, Nat.lt_of_lt_of_le h.lt hb.size, fun j r hr => (h.own j r hr).kept (grown_below hb none) (by cases r.v.ownBlock <;> simp), h.sep⟩
/-- The block itself is written. -/
theorem RsAt.put {B g : Nat} {l : List RS} {w w' : World} (h : RsAt B g l w) (hg : w.grownBy w' (some g)) : RsAt B g l w' :=
  ⟨h.low, Nat.lt_of_lt_of_le h.lt hg.size, fun j r hr => (h.own j r hr).kept hg (.inr (h.ne_g hr)), h.sep⟩
/-- One row is written or has moved. -/
theorem RsAt.grow {B g : Nat} {l : List RS} {w w' : World} (h : RsAt B g l w) {i : Nat} {r r' : RS} (hi : l[i]? = some r) (hg : w.grownBy w' r.v.ownBlock) (ho : Own r' B w') (hat : r'.v.ownBlock = r.v.ownBlock ∨ ∀ b, r'.v.ownBlock = some b → w.heap.size ≤ b) : RsAt B g (l.set i r') w' := by
  have hil := (List.getElem?_eq_some_iff.1 hi).1
  refine ⟨h.low, Nat.lt_of_lt_of_le h.lt hg.size, fun j q hq => ?_, ?_⟩
  · rw [List.getElem?_set] at hq
    by_cases hij : i = j
    · rw [if_pos hij, if_pos hil] at hq
      cases hq; exact ho
    · rw [if_neg hij] at hq
      exact (h.own j q hq).kept hg (h.apart hq hi (fun e => hij e.symm))
  · have e : blks g (l.set i r') = (blks g l).set (i + 1) r'.v.ownBlock := by simp [blks, List.map_set]
    rw [e]
    exact h.sep.set h.bound (i + 1) (hat.imp (fun e => by rw [blks_at hi, e]) id)
/-- From 'w' to 'w'' only these blocks and new ones are written; the blocks that are held then are of these or new. -/
structure Mv (l : List (Option Nat)) (w : World) (l' : List (Option Nat)) (w' : World) : Prop where
  os : w'.os = w.os
  tape : w'.tape = w.tape
  output : w'.output = w.output
  size : w.heap.size ≤ w'.heap.size
  block : ∀ b, b < w.heap.size → (∀ j : Nat, l[j]? ≠ some (some b)) → w'.heap[b]? = w.heap[b]?
  sub : ∀ (j b : Nat), l'[j]? = some (some b) → b < w.heap.size → ∃ i : Nat, l[i]? = some (some b)
theorem Mv.refl (l : List (Option Nat)) (w : World) : Mv l w l w := ⟨rfl, rfl, rfl, Nat.le_refl _, fun _ _ _ => rfl, fun j _ h _ => ⟨j, h⟩⟩
theorem Mv.trans {l l' l2 : List (Option Nat)} {w w' w2 : World} (h : Mv l w l' w') (k : Mv l' w' l2 w2) : Mv l w l2 w2 :=
  ⟨k.os.trans h.os, k.tape.trans h.tape, k.output.trans h.output, Nat.le_trans h.size k.size,
    fun b hb hn => (k.block b (Nat.lt_of_lt_of_le hb h.size) (fun j e => by obtain ⟨i, hi⟩ := h.sub j b e hb; exact hn i hi)).trans (h.block b hb hn),
    fun j b e hb => by obtain ⟨i, hi⟩ := k.sub j b e (Nat.lt_of_lt_of_le hb h.size); exact h.sub i b hi hb⟩
theorem Mv.of_below {w w' : World} (l : List (Option Nat)) (hb : Below w.heap.size w w') : Mv l w l w' := ⟨hb.os, hb.tape, hb.output, hb.size, fun b h _ => hb.block b h, fun j _ h _ => ⟨j, h⟩⟩
theorem Mv.of_grown {l : List (Option Nat)} {w w' : World} {i : Nat} {o : Option Nat} (hi : l[i]? = some o) (hg : w.grownBy w' o) {x : Option Nat} (hx : x = o ∨ ∀ b, x = some b → w.heap.size ≤ b) : Mv l w (l.set i x) w' :=
  ⟨hg.os, hg.tape, hg.output, hg.size, fun b hb hn => hg.block b hb (fun e => hn i (by rw [hi, ← e])), fun j b e hb => by
    rw [List.getElem?_set] at e
    by_cases hij : i = j
    · rw [if_pos hij] at e
      split at e
      · have hxb : x = some b := Option.some.inj e
        rcases hx with hx | hx
        · exact ⟨i, by rw [hi, ← hx, hxb]⟩
        · have := hx b hxb; omega
      · cases e
    · rw [if_neg hij] at e; exact ⟨j, e⟩⟩
theorem Mv.below {l l' : List (Option Nat)} {w w' : World} (h : Mv l w l' w') {B : Nat} (hl : ∀ (j b : Nat), l[j]? = some (some b) → B ≤ b) (hB : B ≤ w.heap.size) : Below B w w' :=
  ⟨h.os, h.tape, h.output, h.size, fun b hb => h.block b (by omega) (fun j e => by have := hl j b e; omega)⟩
theorem RsAt.base {B g : Nat} {l : List RS} {w : World} (h : RsAt B g l w) : ∀ (j b : Nat), (blks g l)[j]? = some (some b) → B ≤ b
  | 0, b, e => by
    have : some g = some b := Option.some.inj e
    cases this; exact h.low
  | j + 1, b, e => by
    have e' : (l.map fun r => r.v.ownBlock)[j]? = some (some b) := e
    rw [List.getElem?_map] at e'
    cases hr : l[j]? with
    | none => rw [hr] at e'; cases e'
    | some r =>
      rw [hr] at e'
      exact ((h.own j r hr).lt b (Option.some.inj e')).1
/-- A block that is none of these stays. -/
theorem Mv.box {l l' : List (Option Nat)} {w w' : World} (h : Mv l w l' w') {q : Nat} {cs : Array Value} {t : TypeId} (hx : Box q cs t w) (hn : ∀ j : Nat, l[j]? ≠ some (some q)) : Box q cs t w' := (h.block q hx.lt hn).trans hx
/-- A block that lay before stays apart. -/
theorem Mv.out {l l' : List (Option Nat)} {w w' : World} (h : Mv l w l' w') {q : Nat} (hq : q < w.heap.size) (hn : ∀ j : Nat, l[j]? ≠ some (some q)) : ∀ j : Nat, l'[j]? ≠ some (some q) := fun j e => by
  obtain ⟨i, hi⟩ := h.sub j q e hq
  exact hn i hi
/-- One row is written or has moved, and then the block: what the struct holds. -/
theorem RsAt.app {B g : Nat} {l : List RS} {w w' : World} {cs : Array Value} {t : TypeId} (h : RsAt B g l w) (hx : Box g cs t w) {i : Nat} {r r' : RS} (hi : l[i]? = some r) (hg : w.grownBy w' r.v.ownBlock) (ho : Own r' B w') (hat : r'.v.ownBlock = r.v.ownBlock ∨ ∀ b, r'.v.ownBlock = some b → w.heap.size ≤ b) (c : Nat) (u : Value) :
    RsAt B g (l.set i r') (w'.setCell ⟨g, c, none⟩ u) ∧ Box g (cs.setIfInBounds c u) t (w'.setCell ⟨g, c, none⟩ u) ∧ Mv (blks g l) w (blks g (l.set i r')) (w'.setCell ⟨g, c, none⟩ u) ∧ Box g cs t w' := by
  have hx' := hx.grown hg (fun e => h.ne_g hi e.symm)
  have e : blks g (l.set i r') = (blks g l).set (i + 1) r'.v.ownBlock := by simp [blks, List.map_set]
  refine ⟨(h.grow hi hg ho hat).put (grown_setCell w' g c u), hx'.set c u, ?_, hx'⟩
  have m1 : Mv (blks g l) w (blks g (l.set i r')) w' := by rw [e]; exact Mv.of_grown (blks_at hi) hg hat
  have m2 := Mv.of_grown (l := blks g (l.set i r')) (i := 0) (o := some g) rfl (grown_setCell w' g c u) (x := some g) (.inl rfl)
  exact m1.trans m2
/-- A cell of a row is written. -/
theorem RsAt.cellset {B g : Nat} {l : List RS} {w w' : World} {cs : Array Value} {t : TypeId} (h : RsAt B g l w) (hx : Box g cs t w) {i : Nat} {r r' : RS} (hi : l[i]? = some r) (hg : w.grownBy w' r.v.ownBlock) (ho : Own r' B w') (hv : r'.v = r.v) :
    RsAt B g (l.set i r') w' ∧ Box g cs t w' ∧ Mv (blks g l) w (blks g (l.set i r')) w' := by
  have e : blks g (l.set i r') = (blks g l).set (i + 1) r'.v.ownBlock := by simp [blks, List.map_set]
  refine ⟨h.grow hi hg ho (.inl (by rw [hv])), hx.grown hg (fun e => h.ne_g hi e.symm), ?_⟩
  rw [e]
  exact Mv.of_grown (blks_at hi) hg (.inl (by rw [hv]))
end Go.Proofs.YtlicadaecfgklaaGreatDoor.rss

/- The program's state of an execution in memory: a struct that holds three rows of its own, the function that yields the readings and the observer; the observer's own memory lies apart; nothing else that was there is written. -/
namespace Go.Proofs.YtlicadaecfgklaaGreatDoor.exe
open Go Go.ChangeShapes Go.WideShapes Go.ChangeAt Go.RowKit Go.Proofs.YtlicadaecfgklaaGreatDoor.row Go.Proofs.YtlicadaecfgklaaGreatDoor.val Go.Proofs.YtlicadaecfgklaaGreatDoor.expr Go.Proofs.YtlicadaecfgklaaGreatDoor.stm Go.Proofs.YtlicadaecfgklaaGreatDoor.blk Go.Proofs.YtlicadaecfgklaaGreatDoor.sets Go.Proofs.YtlicadaecfgklaaGreatDoor.rss

/-- No block stands in both. -/
def Dj (l k : List (Option Nat)) : Prop := ∀ (i j b : Nat), l[i]? = some (some b) → k[j]? ≠ some (some b)
theorem Dj.left {l l' k : List (Option Nat)} {w w' : World} (h : Dj l k) (m : Mv l w l' w') (hk : ∀ (j b : Nat), k[j]? = some (some b) → b < w.heap.size) : Dj l' k := fun i j b hi hj => by
  obtain ⟨i', hi'⟩ := m.sub i b hi (hk j b hj)
  exact h i' j b hi' hj
theorem Dj.symm {l k : List (Option Nat)} (h : Dj l k) : Dj k l := fun i j b hi hj => h j i b hj hi
theorem Dj.right {l k k' : List (Option Nat)} {w w' : World} (h : Dj l k) (m : Mv k w k' w') (hl : ∀ (j b : Nat), l[j]? = some (some b) → b < w.heap.size) : Dj l k' := (h.symm.left m hl).symm
theorem Dj.nil (l : List (Option Nat)) : Dj l [] := fun _ j _ _ hj => by simp at hj
/-- What is not moved stays. -/
theorem mv_keeps {l l' k : List (Option Nat)} {w w' : World} (m : Mv l w l' w') (h : Dj l k) (hk : ∀ (j b : Nat), k[j]? = some (some b) → b < w.heap.size) : ∀ (j b : Nat), k[j]? = some (some b) → w'.heap[b]? = w.heap[b]? := fun j b hj => m.block b (hk j b hj) (fun i hi => h i j b hi hj)
theorem own_stays {w w' : World} {B n s : Nat} {e : TypeId} {v : Value} {xs : List Value} (h : w.ownsRow B e s v n xs) (hk : ∀ b, v.ownBlock = some b → w'.heap[b]? = w.heap[b]?) : w'.ownsRow B e s v n xs := by
  refine ⟨h.1, ?_⟩
  rcases h.2 with hn | ⟨g, cap, cur, rfl, hb, hgg, rest⟩
  · exact .inl hn
  · exact .inr ⟨g, cap, cur, rfl, hb, (hk g rfl).trans hgg, rest⟩
theorem rs_stays {B g : Nat} {l : List RS} {w w' : World} (h : RsAt B g l w) (hs : w.heap.size ≤ w'.heap.size) (hk : ∀ (j b : Nat), (blks g l)[j]? = some (some b) → w'.heap[b]? = w.heap[b]?) : RsAt B g l w' := by
  refine ⟨h.low, Nat.lt_of_lt_of_le h.lt hs, fun j r hr => ?_, h.sep⟩
  exact own_stays (h.own j r hr) (fun b hb => hk (j + 1) b (by rw [blks_at hr, hb]))

/-- What the program's execution is given: where the function that yields the readings finds its list, and the number of the first one. -/
structure PCf where
  (lv : Bool) (gu gz : Nat) (al : Option Addr) (nl cl : Nat) (Y : List Int) (z : Int)
def PCf.src (c : PCf) : Int → Nat → Int := if c.lv then liveSrc c.Y c.z else listSrc c.Y
/-- The variables that the function has captured. -/
def PCf.cap (c : PCf) : List (Option Nat) := [some c.gu, if c.lv then some c.gz else none]
abbrev fnS (gu gz : Nat) : Value := .func (.func 96) #[] #[.pointer (some ⟨gu, 0, none⟩), .pointer (some ⟨gz, 0, none⟩)]
def liveOk : Prop := True
abbrev fnT (_ : Nat) : Value := .nilFunc
def listOk : Prop := False
def PCf.fn (c : PCf) : Value := if c.lv then fnS c.gu c.gz else fnT c.gu
/-- The readings are there, and they are values. -/
def PCfS (c : PCf) (w : World) : Prop := Row w c.al c.nl c.Y ∧ (c.nl : Int) ≤ 1048576 ∧ (0 ≤ c.z ∧ c.z ≤ 1000000) ∧ allV c.Y = true
/-- The variables that the function has captured are there. -/
def CapAt (c : PCf) (w : World) : Prop := (c.gu < w.heap.size ∧ w.cell? ⟨c.gu, 0, none⟩ = some (.slice c.al c.nl c.cl)) ∧ (c.lv = true → liveOk ∧ c.gz < w.heap.size ∧ w.cell? ⟨c.gz, 0, none⟩ = some (.int .i64 c.z)) ∧ (c.lv = false → listOk)
theorem PCfS.below {c : PCf} {w w' : World} (h : PCfS c w) (hb : Below w.heap.size w w') : PCfS c w' := ⟨h.1.below hb, h.2⟩
theorem CapAt.lt {c : PCf} {w : World} (h : CapAt c w) : ∀ (j b : Nat), c.cap[j]? = some (some b) → b < w.heap.size
  | 0, b, e => by
    have e2 : some c.gu = some b := Option.some.inj e
    cases e2; exact h.1.1
  | 1, b, e => by
    have e2 : (if c.lv then some c.gz else none) = some b := Option.some.inj e
    split at e2
    · cases e2; exact (h.2.1 (by assumption)).2.1
    · cases e2
  | j + 2, b, e => by simp [PCf.cap] at e
theorem CapAt.stays {c : PCf} {w w' : World} (h : CapAt c w) (hs : w.heap.size ≤ w'.heap.size) (hk : ∀ (j b : Nat), c.cap[j]? = some (some b) → w'.heap[b]? = w.heap[b]?) : CapAt c w' := by
  refine ⟨⟨Nat.lt_of_lt_of_le h.1.1 hs, (World.cell?_of_block (a := ⟨c.gu, 0, none⟩) (hk 0 c.gu rfl)).trans h.1.2⟩, fun e => ?_, h.2.2⟩
  obtain ⟨h1, h2, h3⟩ := h.2.1 e
  exact ⟨h1, Nat.lt_of_lt_of_le h2 hs, (World.cell?_of_block (a := ⟨c.gz, 0, none⟩) (hk 1 c.gz (by simp [PCf.cap, e]))).trans h3⟩
theorem CapAt.below {c : PCf} {w w' : World} (h : CapAt c w) (hb : Below w.heap.size w w') : CapAt c w' := h.stays hb.size (fun j b hj => hb.block b (h.lt j b hj))
theorem PCf.src_val {c : PCf} {w : World} (h : PCfS c w) (q : Int) (n : Nat) : isVal (c.src q n) = true := by
  unfold PCf.src
  split
  · exact liveSrc_val _ _ _ _
  · exact listSrc_val h.2.2.2 _ _
/-- An observer: the function, and what holds of its own memory. -/
structure Obs (B : Nat) extends Obm where
  (k : FuncId) (fc : Array Value)
  (ent : ∀ (args : Array Value) (w : World), (callFunc k args).run Tryz.prog w = .ok (.enter k args) w)
  (At : τ → List (Option Nat) → World → Prop)
  (base : ∀ t F w, At t F w → ∀ (j b : Nat), F[j]? = some (some b) → B ≤ b ∧ b < w.heap.size)
  (stay : ∀ t F w w', At t F w → w.heap.size ≤ w'.heap.size → (∀ (j b : Nat), F[j]? = some (some b) → w'.heap[b]? = w.heap[b]?) → At t F w')
/-- Where the rows lie. -/
structure Pp where
  (gv cv : Nat) (a1 : Option Addr) (n1 c1 : Nat) (a2 : Option Addr) (n2 c2 : Nat)
abbrev Obs.fn {B : Nat} (o : Obs B) : Value := .func (.func o.k) #[] o.fc
abbrev pxC {B : Nat} (p : Pp) (c : PCf) (o : Obs B) : Array Value :=
  #[.slice (some ⟨p.gv, 0, none⟩) 8 p.cv, .slice p.a1 p.n1 p.c1, .slice p.a2 p.n2 p.c2, c.fn, .func (.func o.k) #[] o.fc]
abbrev pxL (p : Pp) (x : Sx) : List RS := [⟨.slice (some ⟨p.gv, 0, none⟩) 8 p.cv, 8, ivs x.V, 3, 1⟩, ⟨.slice p.a1 p.n1 p.c1, p.n1, ivs x.S, 3, 1⟩, ⟨.slice p.a2 p.n2 p.c2, p.n2, ivs x.U, 3, 1⟩]
abbrev pxB (g : Nat) (p : Pp) (x : Sx) : List (Option Nat) := blks g (pxL p x)
/-- The block 'g' holds the state 'x', the observer's memory its state 't'. -/
structure PxAt (B g : Nat) (p : Pp) (c : PCf) (o : Obs B) (x : Sx) (t : o.τ) (F : List (Option Nat)) (w : World) : Prop where
  box : Box g (pxC p c o) 87 w
  rows : RsAt B g (pxL p x) w
  cap : CapAt c w
  ob : o.At t F w
  d1 : Dj (pxB g p x) F
  d2 : Dj (pxB g p x) c.cap
  d3 : Dj F c.cap
def Px (B g : Nat) (c : PCf) (o : Obs B) (z : o.Z) (w : World) : Prop := ∃ (p : Pp) (F : List (Option Nat)), PxAt B g p c o z.1 z.2 F w
theorem PxAt.lt {B g : Nat} {p : Pp} {c : PCf} {o : Obs B} {x : Sx} {t : o.τ} {F : List (Option Nat)} {w : World} (h : PxAt B g p c o x t F w) : g < w.heap.size := h.rows.lt
theorem PxAt.vars {B g : Nat} {p : Pp} {c : PCf} {o : Obs B} {x : Sx} {t : o.τ} {F : List (Option Nat)} {w : World} (h : PxAt B g p c o x t F w) : w.ownsRow B 3 1 (.slice (some ⟨p.gv, 0, none⟩) 8 p.cv) 8 (ivs x.V) := h.rows.own 0 _ rfl
theorem PxAt.sent {B g : Nat} {p : Pp} {c : PCf} {o : Obs B} {x : Sx} {t : o.τ} {F : List (Option Nat)} {w : World} (h : PxAt B g p c o x t F w) : w.ownsRow B 3 1 (.slice p.a1 p.n1 p.c1) p.n1 (ivs x.S) := h.rows.own 1 _ rfl
theorem PxAt.used {B g : Nat} {p : Pp} {c : PCf} {o : Obs B} {x : Sx} {t : o.τ} {F : List (Option Nat)} {w : World} (h : PxAt B g p c o x t F w) : w.ownsRow B 3 1 (.slice p.a2 p.n2 p.c2) p.n2 (ivs x.U) := h.rows.own 2 _ rfl
theorem PxAt.vrow {B g : Nat} {p : Pp} {c : PCf} {o : Obs B} {x : Sx} {t : o.τ} {F : List (Option Nat)} {w : World} (h : PxAt B g p c o x t F w) : Row w (some ⟨p.gv, 0, none⟩) 8 x.V := Row.of_own h.vars
theorem PxAt.slen {B g : Nat} {p : Pp} {c : PCf} {o : Obs B} {x : Sx} {t : o.τ} {F : List (Option Nat)} {w : World} (h : PxAt B g p c o x t F w) : x.S.length = p.n1 := own_len h.sent
theorem PxAt.ulen {B g : Nat} {p : Pp} {c : PCf} {o : Obs B} {x : Sx} {t : o.τ} {F : List (Option Nat)} {w : World} (h : PxAt B g p c o x t F w) : x.U.length = p.n2 := own_len h.used
theorem PxAt.vg {B g : Nat} {p : Pp} {c : PCf} {o : Obs B} {x : Sx} {t : o.τ} {F : List (Option Nat)} {w : World} (h : PxAt B g p c o x t F w) : p.gv ≠ g := fun e => h.rows.ne_g (j := 0) rfl (by rw [← e]; rfl)
theorem PxAt.gvB {B g : Nat} {p : Pp} {c : PCf} {o : Obs B} {x : Sx} {t : o.τ} {F : List (Option Nat)} {w : World} (h : PxAt B g p c o x t F w) : B ≤ p.gv ∧ p.gv < w.heap.size := own_block h.vars p.gv rfl
theorem PxAt.stays {B g : Nat} {p : Pp} {c : PCf} {o : Obs B} {x : Sx} {t : o.τ} {F : List (Option Nat)} {w w' : World} (h : PxAt B g p c o x t F w) (hb : Below w.heap.size w w') : PxAt B g p c o x t F w' :=
  ⟨h.box.below hb, h.rows.below hb, h.cap.below hb, o.stay t F w w' h.ob hb.size (fun j b hj => hb.block b (o.base t F w h.ob j b hj).2), h.d1, h.d2, h.d3⟩
theorem PxAt.below {B g : Nat} {p : Pp} {c : PCf} {o : Obs B} {x : Sx} {t : o.τ} {F : List (Option Nat)} {w w' : World} (h : PxAt B g p c o x t F w) (hb : Below w.heap.size w w') : PxAt B g p c o x t F w' := h.stays hb
/-- The observer has been told something: its memory alone has moved. -/
theorem PxAt.told {B g : Nat} {p : Pp} {c : PCf} {o : Obs B} {x : Sx} {t t' : o.τ} {F F' : List (Option Nat)} {w w' : World} (h : PxAt B g p c o x t F w) (ho : o.At t' F' w') (m : Mv F w F' w') : PxAt B g p c o x t' F' w' :=
  ⟨(m.block g h.lt (fun j e => h.d1 0 j g rfl e)).trans h.box, rs_stays h.rows m.size (mv_keeps m h.d1.symm h.rows.bound), h.cap.stays m.size (mv_keeps m h.d3 h.cap.lt), ho, h.d1.right m h.rows.bound, h.d2, h.d3.left m h.cap.lt⟩
theorem PxAt.told_below {B g : Nat} {p : Pp} {c : PCf} {o : Obs B} {x : Sx} {t : o.τ} {F F' : List (Option Nat)} {w w' : World} (h : PxAt B g p c o x t F w) (m : Mv F w F' w') (hB : B ≤ w.heap.size) : Below B w w' := m.below (fun j b e => (o.base t F w h.ob j b e).1) hB
/-- The execution's own memory has moved. -/
theorem PxAt.moved {B g : Nat} {p p' : Pp} {c : PCf} {o : Obs B} {x x' : Sx} {t : o.τ} {F : List (Option Nat)} {w w' : World} (h : PxAt B g p c o x t F w) (hx : Box g (pxC p' c o) 87 w') (hr : RsAt B g (pxL p' x') w') (m : Mv (pxB g p x) w (pxB g p' x') w') : PxAt B g p' c o x' t F w' :=
  ⟨hx, hr, h.cap.stays m.size (mv_keeps m h.d2 h.cap.lt), o.stay t F w w' h.ob m.size (mv_keeps m h.d1 (fun j b e => (o.base t F w h.ob j b e).2)), h.d1.left m (fun j b e => (o.base t F w h.ob j b e).2), h.d2.left m h.cap.lt, h.d3⟩
/-- A variable is set. -/
theorem PxAt.set {B g : Nat} {p : Pp} {c : PCf} {o : Obs B} {x : Sx} {t : o.τ} {F : List (Option Nat)} {w : World} (h : PxAt B g p c o x t F w) (k : Nat) (q : Int) :
    PxAt B g p c o ⟨x.V.set k q, x.S, x.U⟩ t F (w.setCell ⟨p.gv, k, none⟩ (.int .i64 q)) := by
  have hs := (h.vars.stored k (.int .i64 q)).1
  rw [ivs_set] at hs
  obtain ⟨hr, hbx, hmv⟩ := h.rows.cellset h.box (i := 0) rfl (grown_setCell w p.gv k (.int .i64 q)) (r' := ⟨.slice (some ⟨p.gv, 0, none⟩) 8 p.cv, 8, ivs (x.V.set k q), 3, 1⟩) hs rfl
  exact h.moved hbx hr hmv
theorem PxAt.set_below {B g : Nat} {p : Pp} {c : PCf} {o : Obs B} {x : Sx} {t : o.τ} {F : List (Option Nat)} {w w0 : World} (h : PxAt B g p c o x t F w) (k : Nat) (v : Value) (hB : Below B w0 w) (h0 : B ≤ w.heap.size) : Below B w0 (w.setCell ⟨p.gv, k, none⟩ v) :=
  hB.grown (grown_setCell w p.gv k v) h0 (fun j e => by cases e; exact h.gvB.1)
theorem PxAt.base {B g : Nat} {p : Pp} {c : PCf} {o : Obs B} {x : Sx} {t : o.τ} {F : List (Option Nat)} {w : World} (h : PxAt B g p c o x t F w) : B ≤ w.heap.size := Nat.le_trans h.rows.low (Nat.le_of_lt h.lt)
/-- Sent: the row of sent values has grown to a row, and the struct holds it. -/
theorem PxAt.send {B g : Nat} {p : Pp} {c : PCf} {o : Obs B} {x : Sx} {t : o.τ} {F : List (Option Nat)} {w w' : World} (h : PxAt B g p c o x t F w) {q : Int} {a3 : Option Addr} {c3 : Nat}
    (ho : w'.ownsRow B 3 1 (.slice a3 (p.n1 + 1) c3) (p.n1 + 1) (ivs (x.S ++ [q]))) (hg : w.grownBy w' (Value.slice p.a1 p.n1 p.c1).ownBlock) (hat : (Value.slice a3 (p.n1 + 1) c3).ownBlock = (Value.slice p.a1 p.n1 p.c1).ownBlock ∨ ∀ b, (Value.slice a3 (p.n1 + 1) c3).ownBlock = some b → w.heap.size ≤ b) :
    PxAt B g ⟨p.gv, p.cv, a3, p.n1 + 1, c3, p.a2, p.n2, p.c2⟩ c o ⟨x.V, x.S ++ [q], x.U⟩ t F (w'.setCell ⟨g, 1, none⟩ (.slice a3 (p.n1 + 1) c3)) ∧ Below B w (w'.setCell ⟨g, 1, none⟩ (.slice a3 (p.n1 + 1) c3)) ∧ Box g (pxC p c o) 87 w' := by
  obtain ⟨hr, hbx, hmv, hx⟩ := h.rows.app h.box (i := 1) rfl hg (r' := ⟨.slice a3 (p.n1 + 1) c3, p.n1 + 1, ivs (x.S ++ [q]), 3, 1⟩) ho hat 1 (.slice a3 (p.n1 + 1) c3)
  exact ⟨h.moved hbx hr hmv, hmv.below h.rows.base h.base, hx⟩
/-- Sensed: the row of used values has grown to a row, and the struct holds it. -/
theorem PxAt.sense {B g : Nat} {p : Pp} {c : PCf} {o : Obs B} {x : Sx} {t : o.τ} {F : List (Option Nat)} {w w' : World} (h : PxAt B g p c o x t F w) {q : Int} {a3 : Option Addr} {c3 : Nat}
    (ho : w'.ownsRow B 3 1 (.slice a3 (p.n2 + 1) c3) (p.n2 + 1) (ivs (x.U ++ [q]))) (hg : w.grownBy w' (Value.slice p.a2 p.n2 p.c2).ownBlock) (hat : (Value.slice a3 (p.n2 + 1) c3).ownBlock = (Value.slice p.a2 p.n2 p.c2).ownBlock ∨ ∀ b, (Value.slice a3 (p.n2 + 1) c3).ownBlock = some b → w.heap.size ≤ b) :
    PxAt B g ⟨p.gv, p.cv, p.a1, p.n1, p.c1, a3, p.n2 + 1, c3⟩ c o ⟨x.V, x.S, x.U ++ [q]⟩ t F (w'.setCell ⟨g, 2, none⟩ (.slice a3 (p.n2 + 1) c3)) ∧ Below B w (w'.setCell ⟨g, 2, none⟩ (.slice a3 (p.n2 + 1) c3)) ∧ Box g (pxC p c o) 87 w' := by
  obtain ⟨hr, hbx, hmv, hx⟩ := h.rows.app h.box (i := 2) rfl hg (r' := ⟨.slice a3 (p.n2 + 1) c3, p.n2 + 1, ivs (x.U ++ [q]), 3, 1⟩) ho hat 2 (.slice a3 (p.n2 + 1) c3)
  exact ⟨h.moved hbx hr hmv, hmv.below h.rows.base h.base, hx⟩
theorem Px.below {B g : Nat} {c : PCf} {o : Obs B} {z : o.Z} {w w' : World} (h : Px B g c o z w) (hb : Below w.heap.size w w') : Px B g c o z w' := by
  obtain ⟨p, F, h⟩ := h
  exact ⟨p, F, h.below hb⟩
abbrev stmA (s : Sm) : Array Value := #[.int .i64 s.k, .int .i64 s.v, .int .i64 s.n, .int .i64 s.o, .int .i64 s.a, .int .i64 s.b]
/-- What the observer does when it is told a statement. -/
def Tells (w0 : World) (c : PCf) (o : Obs w0.heap.size) (g : Nat) : Prop :=
  ∀ (w : World) (p : Pp) (F : List (Option Nat)) (x : Sx) (t : o.τ) (s : Sm) (v : Int), stOk s = true → s.k ≠ 6 → varsOk x.V = true → v = valS c.src s x → totZ (o := o.toObm) (x, t) ≤ 50000 → Below w0.heap.size w0 w → PxAt w0.heap.size g p c o x t F w →
    Calls Tryz.prog o.k (#[.agg (stmA s), .int .i64 v] ++ o.fc) w (fun e w' => e = .returned (.tuple #[]) ∧ ∃ F', o.At (o.nxt t x s v) F' w' ∧ Mv F w F' w')
end Go.Proofs.YtlicadaecfgklaaGreatDoor.exe

/- Chapter 3's EvalExpr of the program: the plain function 'evalV'; nothing that was there is written. -/
namespace Go.Proofs.YtlicadaecfgklaaGreatDoor.expr
open Go.ChangeShapes Go.WideShapes Go.ChangeAt Go.RowKit Go.Proofs.YtlicadaecfgklaaGreatDoor.row Go.Proofs.YtlicadaecfgklaaGreatDoor.val

theorem retq {P : Program} {f : FuncId} {args : Array Value} {w : World} {x : Int} (h : Calls P f args w (Ret w x)) : Calls P f args w fun e w' => e = .returned (.int .i64 x) ∧ w' = w := h.mono fun _ _ ⟨a, b⟩ => ⟨a, b.symm⟩
set_option maxHeartbeats 1000000 in
set_option maxRecDepth 100000 in
theorem impl_evalExpr (w : World) (ad : Option Addr) (n cap : Nat) (L : List Int) (hn : (n : Int) ≤ 1048576) (h : Row w ad n L) (o a b : Int) :
    Calls Tryz.prog 107 #[.slice ad n cap, ev o a b] w (BelI w (evalV L o a b)) := by
  have HR : Hid (∀ w' : World, Below w.heap.size w w' → Row w' ad n L) := fun w' hb => h.below hb
  clear h
  cases hv : varsOk L
  · have HV := Lib.hid (evalV_no (o := o) (a := a) (b := b) (Or.inl hv))
    go_enter Tryz.func107, Tryz.ntmps107
    go_wp2_with (go_at_call 65; refine (impl_vars _ _ _ _ L hn (HR.out _ ((Below.refl _ _).alloc (Nat.le_refl _) _)) _ hv).mono ?_; rintro e w1 ⟨rfl, rfl⟩)
    go_ret
    exact ⟨ret_i HV.out.symm, (Below.refl _ _).alloc (Nat.le_refl _) _⟩
  · cases he : exprOk o a b
    · have HV := Lib.hid (evalV_no (L := L) (Or.inr he))
      go_enter Tryz.func107, Tryz.ntmps107
      go_wp2_with (first
        | (go_at_call 65; refine (impl_vars _ _ _ _ L hn (HR.out _ ((Below.refl _ _).alloc (Nat.le_refl _) _)) _ hv).mono ?_; rintro e w1 ⟨rfl, rfl⟩)
        | (go_at_call 134; refine (impl_exprok _ _ _ _ he _).mono ?_; rintro e w1 ⟨rfl, hb1⟩))
      go_ret
      exact ⟨ret_i HV.out.symm, ((Below.refl _ _).alloc (Nat.le_refl _) _).trans (hb1.mono (by simp))⟩
    · obtain ⟨ho, ha, hb⟩ := (exprOk_iff o a b).1 he
      have HV := Lib.hid (evalV_ok hv he)
      have HA := Lib.hid (opndVal_ok ha hv)
      have HB := Lib.hid (opndVal_ok hb hv)
      clear ha hb
      have i1 : ∀ w, (Instr.index 186 opsV (.int .i64 1)).run Tryz.prog w = .ok (.func (.func 138) #[] #[]) w := fun _ => by kernel_rfl
      have i2 : ∀ w, (Instr.index 186 opsV (.int .i64 2)).run Tryz.prog w = .ok (.func (.func 183) #[] #[]) w := fun _ => by kernel_rfl
      have i3 : ∀ w, (Instr.index 186 opsV (.int .i64 3)).run Tryz.prog w = .ok (.func (.func 184) #[] #[]) w := fun _ => by kernel_rfl
      have i4 : ∀ w, (Instr.index 186 opsV (.int .i64 4)).run Tryz.prog w = .ok (.func (.func 185) #[] #[]) w := fun _ => by kernel_rfl
      have i5 : ∀ w, (Instr.index 186 opsV (.int .i64 5)).run Tryz.prog w = .ok (.func (.func 186) #[] #[]) w := fun _ => by kernel_rfl
      have i6 : ∀ w, (Instr.index 186 opsV (.int .i64 6)).run Tryz.prog w = .ok (.func (.func 187) #[] #[]) w := fun _ => by kernel_rfl
      have i7 : ∀ w, (Instr.index 186 opsV (.int .i64 7)).run Tryz.prog w = .ok (.func (.func 188) #[] #[]) w := fun _ => by kernel_rfl
      rcases (show o = 1 ∨ o = 2 ∨ o = 3 ∨ o = 4 ∨ o = 5 ∨ o = 6 ∨ o = 7 by omega) with rfl | rfl | rfl | rfl | rfl | rfl | rfl
      · clear ho
        go_enter Tryz.func107, Tryz.ntmps107
        go_wp2_with (first
          | (go_at_call 65; refine (impl_vars _ _ _ _ L hn (HR.out _ ((Below.refl _ _).alloc (Nat.le_refl _) _)) _ hv).mono ?_; rintro e w1 ⟨rfl, rfl⟩)
          | (go_at_call 134; refine (impl_exprok _ _ _ _ he _).mono ?_; rintro e w1 ⟨rfl, hb1⟩
             have hbw : Below w.heap.size w w1 := ((Below.refl _ _).alloc (Nat.le_refl _) _).trans (hb1.mono (by simp))
             have hlt : w.heap.size < w1.heap.size := by have := hb1.size; simp at this; omega
             have hbx : w1.cell? ⟨w.heap.size, 0, none⟩ = some (.int .i64 1) := (hb1.cell (by simp)).trans (new_cell w _ _ _)
             have hby : w1.cell? ⟨w.heap.size, 1, none⟩ = some (.int .i64 a) := (hb1.cell (by simp)).trans (new_cell w _ _ _)
             have hbz : w1.cell? ⟨w.heap.size, 2, none⟩ = some (.int .i64 b) := (hb1.cell (by simp)).trans (new_cell w _ _ _)
             clear hb1))
        go_region_held3 (fun w' => w'.cell? ⟨w.heap.size, 0, none⟩ = some (.int .i64 1)) (first | go_keep | (rw [hb2.cell (by simp; omega)]; assumption))
          (first | (go_at_call 149; refine (impl_ops _).mono ?_; rintro e w2 ⟨rfl, hb2⟩))
        have hb2' : Below w1.heap.size w1 w2 := (Below.drew (Below.refl _ w1)).trans hb2
        have hcy : w2.cell? ⟨w.heap.size, 1, none⟩ = some (.int .i64 a) := (hb2'.cell hlt).trans hby
        have hcz : w2.cell? ⟨w.heap.size, 2, none⟩ = some (.int .i64 b) := (hb2'.cell hlt).trans hbz
        have hbw2 : Below w.heap.size w w2 := hbw.trans (hb2'.mono hbw.size)
        have HR2 := Lib.hid (HR.out _ hbw2)
        clear hbx hby hbz hb2 hb2'
        go_wp2
        go_quiet ((first
          | (go_at_call 150; exact Calls.quiet_of_same (retq (impl_opval _ ad n cap L hn (Row.drewN HR2.out _) _)))
          | (go_at_call 138; exact Calls.quiet_of_same (retq (impl_add _ _ _)))))
        go_wp2
        go_ret
        refine ⟨ret_i ?_, below_drewN hbw2 _⟩
        rw [HV.out, ev1, ← HA.out, ← HB.out]
      · clear ho
        go_enter Tryz.func107, Tryz.ntmps107
        go_wp2_with (first
          | (go_at_call 65; refine (impl_vars _ _ _ _ L hn (HR.out _ ((Below.refl _ _).alloc (Nat.le_refl _) _)) _ hv).mono ?_; rintro e w1 ⟨rfl, rfl⟩)
          | (go_at_call 134; refine (impl_exprok _ _ _ _ he _).mono ?_; rintro e w1 ⟨rfl, hb1⟩
             have hbw : Below w.heap.size w w1 := ((Below.refl _ _).alloc (Nat.le_refl _) _).trans (hb1.mono (by simp))
             have hlt : w.heap.size < w1.heap.size := by have := hb1.size; simp at this; omega
             have hbx : w1.cell? ⟨w.heap.size, 0, none⟩ = some (.int .i64 2) := (hb1.cell (by simp)).trans (new_cell w _ _ _)
             have hby : w1.cell? ⟨w.heap.size, 1, none⟩ = some (.int .i64 a) := (hb1.cell (by simp)).trans (new_cell w _ _ _)
             have hbz : w1.cell? ⟨w.heap.size, 2, none⟩ = some (.int .i64 b) := (hb1.cell (by simp)).trans (new_cell w _ _ _)
             clear hb1))
        go_region_held3 (fun w' => w'.cell? ⟨w.heap.size, 0, none⟩ = some (.int .i64 2)) (first | go_keep | (rw [hb2.cell (by simp; omega)]; assumption))
          (first | (go_at_call 149; refine (impl_ops _).mono ?_; rintro e w2 ⟨rfl, hb2⟩))
        have hb2' : Below w1.heap.size w1 w2 := (Below.drew (Below.refl _ w1)).trans hb2
        have hcy : w2.cell? ⟨w.heap.size, 1, none⟩ = some (.int .i64 a) := (hb2'.cell hlt).trans hby
        have hcz : w2.cell? ⟨w.heap.size, 2, none⟩ = some (.int .i64 b) := (hb2'.cell hlt).trans hbz
        have hbw2 : Below w.heap.size w w2 := hbw.trans (hb2'.mono hbw.size)
        have HR2 := Lib.hid (HR.out _ hbw2)
        clear hbx hby hbz hb2 hb2'
        go_wp2
        go_quiet ((first
          | (go_at_call 150; exact Calls.quiet_of_same (retq (impl_opval _ ad n cap L hn (Row.drewN HR2.out _) _)))
          | (go_at_call 183; exact Calls.quiet_of_same (retq (impl_sub _ _ _)))))
        go_wp2
        go_ret
        refine ⟨ret_i ?_, below_drewN hbw2 _⟩
        rw [HV.out, ev2, ← HA.out, ← HB.out]
      · clear ho
        go_enter Tryz.func107, Tryz.ntmps107
        go_wp2_with (first
          | (go_at_call 65; refine (impl_vars _ _ _ _ L hn (HR.out _ ((Below.refl _ _).alloc (Nat.le_refl _) _)) _ hv).mono ?_; rintro e w1 ⟨rfl, rfl⟩)
          | (go_at_call 134; refine (impl_exprok _ _ _ _ he _).mono ?_; rintro e w1 ⟨rfl, hb1⟩
             have hbw : Below w.heap.size w w1 := ((Below.refl _ _).alloc (Nat.le_refl _) _).trans (hb1.mono (by simp))
             have hlt : w.heap.size < w1.heap.size := by have := hb1.size; simp at this; omega
             have hbx : w1.cell? ⟨w.heap.size, 0, none⟩ = some (.int .i64 3) := (hb1.cell (by simp)).trans (new_cell w _ _ _)
             have hby : w1.cell? ⟨w.heap.size, 1, none⟩ = some (.int .i64 a) := (hb1.cell (by simp)).trans (new_cell w _ _ _)
             have hbz : w1.cell? ⟨w.heap.size, 2, none⟩ = some (.int .i64 b) := (hb1.cell (by simp)).trans (new_cell w _ _ _)
             clear hb1))
        go_region_held3 (fun w' => w'.cell? ⟨w.heap.size, 0, none⟩ = some (.int .i64 3)) (first | go_keep | (rw [hb2.cell (by simp; omega)]; assumption))
          (first | (go_at_call 149; refine (impl_ops _).mono ?_; rintro e w2 ⟨rfl, hb2⟩))
        have hb2' : Below w1.heap.size w1 w2 := (Below.drew (Below.refl _ w1)).trans hb2
        have hcy : w2.cell? ⟨w.heap.size, 1, none⟩ = some (.int .i64 a) := (hb2'.cell hlt).trans hby
        have hcz : w2.cell? ⟨w.heap.size, 2, none⟩ = some (.int .i64 b) := (hb2'.cell hlt).trans hbz
        have hbw2 : Below w.heap.size w w2 := hbw.trans (hb2'.mono hbw.size)
        have HR2 := Lib.hid (HR.out _ hbw2)
        clear hbx hby hbz hb2 hb2'
        go_wp2
        go_quiet ((first
          | (go_at_call 150; exact Calls.quiet_of_same (retq (impl_opval _ ad n cap L hn (Row.drewN HR2.out _) _)))
          | (go_at_call 184; exact Calls.quiet_of_same (retq (impl_mul _ _ _)))))
        go_wp2
        go_ret
        refine ⟨ret_i ?_, below_drewN hbw2 _⟩
        rw [HV.out, ev3, ← HA.out, ← HB.out]
      · clear ho
        go_enter Tryz.func107, Tryz.ntmps107
        go_wp2_with (first
          | (go_at_call 65; refine (impl_vars _ _ _ _ L hn (HR.out _ ((Below.refl _ _).alloc (Nat.le_refl _) _)) _ hv).mono ?_; rintro e w1 ⟨rfl, rfl⟩)
          | (go_at_call 134; refine (impl_exprok _ _ _ _ he _).mono ?_; rintro e w1 ⟨rfl, hb1⟩
             have hbw : Below w.heap.size w w1 := ((Below.refl _ _).alloc (Nat.le_refl _) _).trans (hb1.mono (by simp))
             have hlt : w.heap.size < w1.heap.size := by have := hb1.size; simp at this; omega
             have hbx : w1.cell? ⟨w.heap.size, 0, none⟩ = some (.int .i64 4) := (hb1.cell (by simp)).trans (new_cell w _ _ _)
             have hby : w1.cell? ⟨w.heap.size, 1, none⟩ = some (.int .i64 a) := (hb1.cell (by simp)).trans (new_cell w _ _ _)
             have hbz : w1.cell? ⟨w.heap.size, 2, none⟩ = some (.int .i64 b) := (hb1.cell (by simp)).trans (new_cell w _ _ _)
             clear hb1))
        go_region_held3 (fun w' => w'.cell? ⟨w.heap.size, 0, none⟩ = some (.int .i64 4)) (first | go_keep | (rw [hb2.cell (by simp; omega)]; assumption))
          (first | (go_at_call 149; refine (impl_ops _).mono ?_; rintro e w2 ⟨rfl, hb2⟩))
        have hb2' : Below w1.heap.size w1 w2 := (Below.drew (Below.refl _ w1)).trans hb2
        have hcy : w2.cell? ⟨w.heap.size, 1, none⟩ = some (.int .i64 a) := (hb2'.cell hlt).trans hby
        have hcz : w2.cell? ⟨w.heap.size, 2, none⟩ = some (.int .i64 b) := (hb2'.cell hlt).trans hbz
        have hbw2 : Below w.heap.size w w2 := hbw.trans (hb2'.mono hbw.size)
        have HR2 := Lib.hid (HR.out _ hbw2)
        clear hbx hby hbz hb2 hb2'
        go_wp2
        go_quiet ((first
          | (go_at_call 150; exact Calls.quiet_of_same (retq (impl_opval _ ad n cap L hn (Row.drewN HR2.out _) _)))
          | (go_at_call 185; exact Calls.quiet_of_same (retq (impl_min _ _ _)))))
        go_wp2
        go_ret
        refine ⟨ret_i ?_, below_drewN hbw2 _⟩
        rw [HV.out, ev4, ← HA.out, ← HB.out]
      · clear ho
        go_enter Tryz.func107, Tryz.ntmps107
        go_wp2_with (first
          | (go_at_call 65; refine (impl_vars _ _ _ _ L hn (HR.out _ ((Below.refl _ _).alloc (Nat.le_refl _) _)) _ hv).mono ?_; rintro e w1 ⟨rfl, rfl⟩)
          | (go_at_call 134; refine (impl_exprok _ _ _ _ he _).mono ?_; rintro e w1 ⟨rfl, hb1⟩
             have hbw : Below w.heap.size w w1 := ((Below.refl _ _).alloc (Nat.le_refl _) _).trans (hb1.mono (by simp))
             have hlt : w.heap.size < w1.heap.size := by have := hb1.size; simp at this; omega
             have hbx : w1.cell? ⟨w.heap.size, 0, none⟩ = some (.int .i64 5) := (hb1.cell (by simp)).trans (new_cell w _ _ _)
             have hby : w1.cell? ⟨w.heap.size, 1, none⟩ = some (.int .i64 a) := (hb1.cell (by simp)).trans (new_cell w _ _ _)
             have hbz : w1.cell? ⟨w.heap.size, 2, none⟩ = some (.int .i64 b) := (hb1.cell (by simp)).trans (new_cell w _ _ _)
             clear hb1))
        go_region_held3 (fun w' => w'.cell? ⟨w.heap.size, 0, none⟩ = some (.int .i64 5)) (first | go_keep | (rw [hb2.cell (by simp; omega)]; assumption))
          (first | (go_at_call 149; refine (impl_ops _).mono ?_; rintro e w2 ⟨rfl, hb2⟩))
        have hb2' : Below w1.heap.size w1 w2 := (Below.drew (Below.refl _ w1)).trans hb2
        have hcy : w2.cell? ⟨w.heap.size, 1, none⟩ = some (.int .i64 a) := (hb2'.cell hlt).trans hby
        have hcz : w2.cell? ⟨w.heap.size, 2, none⟩ = some (.int .i64 b) := (hb2'.cell hlt).trans hbz
        have hbw2 : Below w.heap.size w w2 := hbw.trans (hb2'.mono hbw.size)
        have HR2 := Lib.hid (HR.out _ hbw2)
        clear hbx hby hbz hb2 hb2'
        go_wp2
        go_quiet ((first
          | (go_at_call 150; exact Calls.quiet_of_same (retq (impl_opval _ ad n cap L hn (Row.drewN HR2.out _) _)))
          | (go_at_call 186; exact Calls.quiet_of_same (retq (impl_max _ _ _)))))
        go_wp2
        go_ret
        refine ⟨ret_i ?_, below_drewN hbw2 _⟩
        rw [HV.out, ev5, ← HA.out, ← HB.out]
      · clear ho
        go_enter Tryz.func107, Tryz.ntmps107
        go_wp2_with (first
          | (go_at_call 65; refine (impl_vars _ _ _ _ L hn (HR.out _ ((Below.refl _ _).alloc (Nat.le_refl _) _)) _ hv).mono ?_; rintro e w1 ⟨rfl, rfl⟩)
          | (go_at_call 134; refine (impl_exprok _ _ _ _ he _).mono ?_; rintro e w1 ⟨rfl, hb1⟩
             have hbw : Below w.heap.size w w1 := ((Below.refl _ _).alloc (Nat.le_refl _) _).trans (hb1.mono (by simp))
             have hlt : w.heap.size < w1.heap.size := by have := hb1.size; simp at this; omega
             have hbx : w1.cell? ⟨w.heap.size, 0, none⟩ = some (.int .i64 6) := (hb1.cell (by simp)).trans (new_cell w _ _ _)
             have hby : w1.cell? ⟨w.heap.size, 1, none⟩ = some (.int .i64 a) := (hb1.cell (by simp)).trans (new_cell w _ _ _)
             have hbz : w1.cell? ⟨w.heap.size, 2, none⟩ = some (.int .i64 b) := (hb1.cell (by simp)).trans (new_cell w _ _ _)
             clear hb1))
        go_region_held3 (fun w' => w'.cell? ⟨w.heap.size, 0, none⟩ = some (.int .i64 6)) (first | go_keep | (rw [hb2.cell (by simp; omega)]; assumption))
          (first | (go_at_call 149; refine (impl_ops _).mono ?_; rintro e w2 ⟨rfl, hb2⟩))
        have hb2' : Below w1.heap.size w1 w2 := (Below.drew (Below.refl _ w1)).trans hb2
        have hcy : w2.cell? ⟨w.heap.size, 1, none⟩ = some (.int .i64 a) := (hb2'.cell hlt).trans hby
        have hcz : w2.cell? ⟨w.heap.size, 2, none⟩ = some (.int .i64 b) := (hb2'.cell hlt).trans hbz
        have hbw2 : Below w.heap.size w w2 := hbw.trans (hb2'.mono hbw.size)
        have HR2 := Lib.hid (HR.out _ hbw2)
        clear hbx hby hbz hb2 hb2'
        go_wp2
        go_quiet ((first
          | (go_at_call 150; exact Calls.quiet_of_same (retq (impl_opval _ ad n cap L hn (Row.drewN HR2.out _) _)))
          | (go_at_call 187; exact Calls.quiet_of_same (retq (impl_less _ _ _)))))
        go_wp2
        go_ret
        refine ⟨ret_i ?_, below_drewN hbw2 _⟩
        rw [HV.out, ev6, ← HA.out, ← HB.out]
      · clear ho
        go_enter Tryz.func107, Tryz.ntmps107
        go_wp2_with (first
          | (go_at_call 65; refine (impl_vars _ _ _ _ L hn (HR.out _ ((Below.refl _ _).alloc (Nat.le_refl _) _)) _ hv).mono ?_; rintro e w1 ⟨rfl, rfl⟩)
          | (go_at_call 134; refine (impl_exprok _ _ _ _ he _).mono ?_; rintro e w1 ⟨rfl, hb1⟩
             have hbw : Below w.heap.size w w1 := ((Below.refl _ _).alloc (Nat.le_refl _) _).trans (hb1.mono (by simp))
             have hlt : w.heap.size < w1.heap.size := by have := hb1.size; simp at this; omega
             have hbx : w1.cell? ⟨w.heap.size, 0, none⟩ = some (.int .i64 7) := (hb1.cell (by simp)).trans (new_cell w _ _ _)
             have hby : w1.cell? ⟨w.heap.size, 1, none⟩ = some (.int .i64 a) := (hb1.cell (by simp)).trans (new_cell w _ _ _)
             have hbz : w1.cell? ⟨w.heap.size, 2, none⟩ = some (.int .i64 b) := (hb1.cell (by simp)).trans (new_cell w _ _ _)
             clear hb1))
        go_region_held3 (fun w' => w'.cell? ⟨w.heap.size, 0, none⟩ = some (.int .i64 7)) (first | go_keep | (rw [hb2.cell (by simp; omega)]; assumption))
          (first | (go_at_call 149; refine (impl_ops _).mono ?_; rintro e w2 ⟨rfl, hb2⟩))
        have hb2' : Below w1.heap.size w1 w2 := (Below.drew (Below.refl _ w1)).trans hb2
        have hcy : w2.cell? ⟨w.heap.size, 1, none⟩ = some (.int .i64 a) := (hb2'.cell hlt).trans hby
        have hcz : w2.cell? ⟨w.heap.size, 2, none⟩ = some (.int .i64 b) := (hb2'.cell hlt).trans hbz
        have hbw2 : Below w.heap.size w w2 := hbw.trans (hb2'.mono hbw.size)
        have HR2 := Lib.hid (HR.out _ hbw2)
        clear hbx hby hbz hb2 hb2'
        go_wp2
        go_quiet ((first
          | (go_at_call 150; exact Calls.quiet_of_same (retq (impl_opval _ ad n cap L hn (Row.drewN HR2.out _) _)))
          | (go_at_call 188; exact Calls.quiet_of_same (retq (impl_same _ _ _)))))
        go_wp2
        go_ret
        refine ⟨ret_i ?_, below_drewN hbw2 _⟩
        rw [HV.out, ev7, ← HA.out, ← HB.out]
end Go.Proofs.YtlicadaecfgklaaGreatDoor.expr
