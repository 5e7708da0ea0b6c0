/- Several texts in one: Ints Box. -/
import Derived.Test.YtekdnhhmiabngaaRows
import Derived.WalkKit
import Derived.ProofKit
import Derived.OpenShut
import Derived.Lib.Hide
import Derived.Below
import Derived.Deep.QuietTactic
import Derived.BigQuiet
import Derived.OwnWalk
import Derived.Laws.OwnMore
import Derived.Deep.Onto
import Derived.Deep.AppendLies
import Derived.Deep.MidRow
import Derived.Laws.ResultCell
import Derived.Laws.Rows

/- Rows of numbers: what it is for a slice to read as a list, and the contracts of the laws' own helpers over such rows (a copy, a comparison, marks, a look at the marks). -/
namespace Go.Proofs.Ytekdnhhmiabngaa.row
open Go.ChangeShapes Go.WideShapes Go.ChangeAt Go.RowKit

theorem ret_i {k : IntKind} {a b : Int} (h : a = b) : Ending.returned (.int k a) = .returned (.int k b) := by rw [h]
theorem grown_drewN {w w1 : World} {r : Option Nat} (h : w.grownBy w1 r) (n : Nat) : w.grownBy (w1.drewN n) r := ⟨h.os, h.tape, h.output, h.size, h.block⟩
theorem grown_refl (w : World) (r : Option Nat) : w.grownBy w r := ⟨rfl, rfl, rfl, Nat.le_refl _, fun _ _ _ => rfl⟩
theorem grown_below {w w' : World} (h : Below w.heap.size w w') (r : Option Nat) : w.grownBy w' r := ⟨h.os, h.tape, h.output, h.size, fun k hk _ => h.block k hk⟩
theorem below_grown {w w' : World} (h : w.grownBy w' none) : Below w.heap.size w w' := ⟨h.os, h.tape, h.output, h.size, fun k hk => h.block k hk (by simp)⟩
theorem grown_trans {w w1 w2 : World} {r : Option Nat} (h : w.grownBy w1 r) (h2 : w1.grownBy w2 r) : w.grownBy w2 r :=
  ⟨h2.os.trans h.os, h2.tape.trans h.tape, h2.output.trans h.output, Nat.le_trans h.size h2.size,
    fun k hk hne => (h2.block k (Nat.lt_of_lt_of_le hk h.size) hne).trans (h.block k hk hne)⟩

theorem below_drewN {B : Nat} {w w' : World} (h : Below B w w') (m : Nat) : Below B w (w'.drewN m) := ⟨h.os, h.tape, h.output, h.size, h.block⟩
theorem new_cell (w : World) (cs : Array Value) (t : TypeId) (i : Nat) : (w.alloc (.cells cs t)).cell? ⟨w.heap.size, i, none⟩ = cs[i]? := cell_of_row _ _ i _ _ _ (heap_alloc_new w _)

theorem below_new (w : World) (o : Obj) : Below w.heap.size w (w.alloc o) := (Below.refl _ _).alloc (Nat.le_refl _) _
theorem below_then {w w1 w2 : World} (h : Below w.heap.size w w1) (h2 : Below w1.heap.size w1 w2) : Below w.heap.size w w2 := h.trans (h2.mono h.size)
/-- Block 'g' is these cells and nothing else. -/
def Box (g : Nat) (cs : Array Value) (t : TypeId) (w : World) : Prop := w.heap[g]? = some (.cells cs t (0, 0))
theorem Box.new (w : World) (cs : Array Value) (t : TypeId) : Box w.heap.size cs t (w.alloc (.cells cs t)) := heap_alloc_new w _
theorem Box.lt {g : Nat} {cs : Array Value} {t : TypeId} {w : World} (h : Box g cs t w) : g < w.heap.size := (Array.getElem?_eq_some_iff.1 h).1
theorem Box.below {g : Nat} {cs : Array Value} {t : TypeId} {w w' : World} (h : Box g cs t w) (hb : Below w.heap.size w w') : Box g cs t w' := (hb.block g h.lt).trans h
theorem Box.grown {g : Nat} {cs : Array Value} {t : TypeId} {w w' : World} {r : Option Nat} (h : Box g cs t w) (hg : w.grownBy w' r) (hne : some g ≠ r) : Box g cs t w' := (hg.block g h.lt hne).trans h
theorem Box.alloc {g : Nat} {cs : Array Value} {t : TypeId} {w : World} (h : Box g cs t w) (o : Obj) : Box g cs t (w.alloc o) := h.below (below_new w o)
theorem Box.drewN {g : Nat} {cs : Array Value} {t : TypeId} {w : World} (h : Box g cs t w) (m : Nat) : Box g cs t (w.drewN m) := h
theorem Box.cell {g : Nat} {cs : Array Value} {t : TypeId} {w : World} (h : Box g cs t w) (i : Nat) : w.cell? ⟨g, i, none⟩ = cs[i]? := cell_of_row _ _ i _ _ _ h

theorem Box.frozen {g : Nat} {cs : Array Value} {t : TypeId} {w : World} (h : Box g cs t w) (i : Nat) : w.frozen? ⟨g, i, none⟩ = false := frozen_of_row _ _ _ _ _ h
theorem Box.set {g : Nat} {cs : Array Value} {t : TypeId} {w : World} (h : Box g cs t w) (i : Nat) (v : Value) : Box g (cs.setIfInBounds i v) t (w.setCell ⟨g, i, none⟩ v) := by
  unfold Box at *; simp [World.setCell, Array.getElem?_modify, h]
theorem Box.set_other {g : Nat} {cs : Array Value} {t : TypeId} {w : World} (h : Box g cs t w) {p : Addr} (hp : g ≠ p.block) (v : Value) : Box g cs t (w.setCell p v) := (heap_setCell_other w p g v hp).trans h
theorem grown_setCell (w : World) (b i : Nat) (v : Value) : w.grownBy (w.setCell ⟨b, i, none⟩ v) (some b) :=
  ⟨rfl, rfl, rfl, by simp, fun k hk hne => heap_setCell_other w _ k v (by intro e; exact hne (by rw [e]))⟩

/-- The cells of a list of numbers. -/
def ivs (L : List Int) : List Value := L.map (Value.int .i64)
theorem ivs_length (L : List Int) : (ivs L).length = L.length := by simp [ivs]
theorem ivs_set (L : List Int) (k : Nat) (x : Int) : (ivs L).set k (.int .i64 x) = ivs (L.set k x) := by simp [ivs, List.map_set]
theorem ivs_snoc (L : List Int) (x : Int) : ivs L ++ [Value.int .i64 x] = ivs (L ++ [x]) := by simp [ivs]

/-- The slice at 'a' of 'n' elements reads as the list 'L'. -/
def Row (w : World) (a : Option Addr) (n : Nat) (L : List Int) : Prop :=
  L.length = n ∧ ∀ k, k < n → ∃ (b off : Nat) (x : Int), a = some ⟨b, off, none⟩ ∧ b < w.heap.size ∧ L[k]? = some x ∧ w.cell? ⟨b, off + k, none⟩ = some (.int .i64 x)

theorem Row.len {w : World} {a : Option Addr} {n : Nat} {L : List Int} (h : Row w a n L) : L.length = n := h.1
theorem Row.below {w w' : World} {a : Option Addr} {n : Nat} {L : List Int} (h : Row w a n L) (hb : Below w.heap.size w w') : Row w' a n L :=
  ⟨h.1, fun k hk => by
    obtain ⟨b, off, x, e, hlt, hx, hc⟩ := h.2 k hk
    exact ⟨b, off, x, e, Nat.lt_of_lt_of_le hlt hb.size, hx, (hb.cell (p := ⟨b, off + k, none⟩) hlt).trans hc⟩⟩
theorem Row.drewN {w : World} {a : Option Addr} {n : Nat} {L : List Int} (h : Row w a n L) (m : Nat) : Row (w.drewN m) a n L := h
theorem Row.grown {w w' : World} {r : Option Nat} {a : Option Addr} {n : Nat} {L : List Int} (h : Row w a n L) (hg : w.grownBy w' r) (hne : ∀ b off, a = some ⟨b, off, none⟩ → some b ≠ r) : Row w' a n L :=
  ⟨h.1, fun k hk => by
    obtain ⟨b, off, x, e, hlt, hx, hc⟩ := h.2 k hk
    exact ⟨b, off, x, e, Nat.lt_of_lt_of_le hlt hg.size, hx, hg.cell hc (hne b off e)⟩⟩
theorem Row.of_own {ty : TypeId} {w : World} {base : Nat} {a : Option Addr} {n cap : Nat} {L : List Int} (h : w.ownsRow base ty 1 (.slice a n cap) n (ivs L)) : Row w a n L := by
  have hl : L.length = n := by have := h.1; simp [ivs] at this; omega
  refine ⟨hl, fun k hk => ?_⟩
  obtain ⟨g, c, hv, hb, hg⟩ := h.form (by omega)
  injection hv with h1 h2 h3
  subst h1
  refine ⟨g, 0, L[k], rfl, hg, by simp [show k < L.length by omega], ?_⟩
  rw [Nat.zero_add, h.cellAt k (by omega)]; simp [ivs, show k < L.length by omega]
/-- A slice that came in: the first 'len' of its row's numbers are its elements. -/
theorem Row.of_ints {w : World} {x : Addr} {len cap : Nat} {zs : List Int} (hlen : len ≤ cap) (hz : zs.length = cap) (hcell : ∀ i, i < zs.length → w.cell? (x.add i) = some (.int .i64 (zs.getD i 0))) :
    Row w (some x) len (zs.take len) := by
  refine ⟨by simp; omega, fun k hk => ?_⟩
  obtain ⟨b, off, rfl, hc⟩ := ints_at hcell (by omega)
  have hck := hc k (by omega)
  refine ⟨b, off, _, rfl, World.block_lt_of_cell? w _ hck, ?_, hck⟩
  rw [List.getElem?_take_of_lt hk, List.getD_eq_getElem?_getD, List.getElem?_eq_getElem (by omega)]; rfl
theorem Row.none_ (w : World) : Row w none 0 [] := ⟨rfl, fun k hk => by omega⟩
theorem own_len {ty : TypeId} {w : World} {base : Nat} {v : Value} {n : Nat} {L : List Int} (h : w.ownsRow base ty 1 v n (ivs L)) : L.length = n := by
  have := h.1; simp [ivs] at this; omega
theorem own_block {ty : TypeId} {w : World} {base : Nat} {v : Value} {n : Nat} {L : List Int} (h : w.ownsRow base ty 1 v n (ivs L)) : ∀ g, v.ownBlock = some g → base ≤ g ∧ g < w.heap.size := fun g hg => h.lt g hg

theorem own_store {ty : TypeId} {w : World} {base : Nat} {a : Option Addr} {n cap : Nat} {L : List Int} (h : w.ownsRow base ty 1 (.slice a n cap) n (ivs L)) {k : Nat} (hk : k < n) :
    ∃ (g : Nat) (X : Int), a = some ⟨g, 0, none⟩ ∧ base ≤ g ∧ g < w.heap.size ∧ w.cell? ⟨g, k, none⟩ = some (.int .i64 X) ∧ w.frozen? ⟨g, k, none⟩ = false := by
  obtain ⟨g, c, hv, hb, hg⟩ := h.form (by omega)
  injection hv with h1 h2 h3
  subst h1
  have hl := own_len h
  refine ⟨g, L[k]'(by omega), rfl, hb, hg, ?_, h.frozenAt k⟩
  rw [h.cellAt k (by omega)]; simp [ivs, show k < L.length by omega]

theorem infoInt : (Try.prog.info? 3).map (fun i => (i.zero, i.size, i.bytes)) = some (some (.int .i64 0), 1, 8) := by kernel_rfl

/-- A copy of the row in the first new block. -/
def MadeAt (w : World) (n : Nat) (L : List Int) (e : Ending) (w' : World) : Prop :=
  e = .returned (.slice (some ⟨w.heap.size, 0, none⟩) n n) ∧ w'.ownsRow w.heap.size 3 1 (.slice (some ⟨w.heap.size, 0, none⟩) n n) n (ivs L) ∧ Below w.heap.size w w'
/-- A copy of the row at the head of a new block. -/
def MadeNew (w : World) (n : Nat) (L : List Int) (e : Ending) (w' : World) : Prop :=
  ∃ g, e = .returned (.slice (some ⟨g, 0, none⟩) n n) ∧ w'.ownsRow w.heap.size 3 1 (.slice (some ⟨g, 0, none⟩) n n) n (ivs L) ∧ Below w.heap.size w w'
/-- A copy of the row in new memory. -/
def MadeInts (w : World) (n : Nat) (L : List Int) (e : Ending) (w' : World) : Prop :=
  ∃ a', e = .returned (.slice a' n n) ∧ w'.ownsRow w.heap.size 3 1 (.slice a' n n) n (ivs L) ∧ Below w.heap.size w w'

theorem made_zeros (n : Nat) : (madeCells (Value.int .i64 0).cells (n * 1)).toList = ivs (List.replicate n 0) := by
  rw [Nat.mul_one]
  exact (toList_madeCells_one (Value.int .i64 0) n).trans (by simp [ivs])

theorem copy_step (L : List Int) (n k : Nat) (x : Int) (hl : L.length = n) (hk : k < n) (hx : L[k]? = some x) :
    (L.take k ++ List.replicate (n - k) 0).set k x = L.take (k + 1) ++ List.replicate (n - (k + 1)) 0 := by
  have hlk : (L.take k).length = k := by simp; omega
  rw [List.take_add_one, hx, show n - k = (n - (k + 1)) + 1 by omega, List.replicate_succ, List.set_append_right _ _ (by omega), hlk, Nat.sub_self]
  simp



/-- The numbers 'q', 'q + 1' .. in the first 'k' places. -/
def Marked (L : List Int) (q k : Nat) : Prop := ∀ i, i < k → L[i]? = some ((q + i : Nat) : Int)
theorem marked_set {L : List Int} {q k : Nat} (h : Marked L q k) (hk : k < L.length) : Marked (L.set k ((q + k : Nat) : Int)) q (k + 1) := by
  intro i hi
  by_cases e : i = k
  · subst e; simp [hk]
  · rw [List.getElem?_set_ne (by omega)]; exact h i (by omega)


end Go.Proofs.Ytekdnhhmiabngaa.row

/- A law for a store of a whole struct into a block that is known whole: behind it the block is the stored cells; nothing else is written. -/
namespace Go.Proofs.Ytekdnhhmiabngaa.row
open Go.ChangeShapes Go.WideShapes Go.ChangeAt Go.RowKit

theorem box_setCells {t : TypeId} (g : Nat) : ∀ (vs : List Value) (o : Nat) (w : World) (cs : Array Value), Box g cs t w → ∃ cs' : Array Value, cs'.size = cs.size ∧ Box g cs' t (w.setCells g o vs)
  | [], _, _, cs, h => ⟨cs, rfl, h⟩
  | v :: r, o, w, cs, h => by
    obtain ⟨cs', h1, h2⟩ := box_setCells g r (o + 1) (w.setCell ⟨g, o, none⟩ v) _ (h.set o v)
    exact ⟨cs', by rw [h1]; simp, h2⟩
theorem grown_setCells (g : Nat) : ∀ (vs : List Value) (o : Nat) (w : World), w.grownBy (w.setCells g o vs) (some g)
  | [], _, w => grown_refl w _
  | v :: r, o, w => grown_trans (grown_setCell w g o v) (grown_setCells g r (o + 1) (w.setCell ⟨g, o, none⟩ v))
theorem box_there {t : TypeId} {g : Nat} {cs : Array Value} {w : World} (h : Box g cs t w) : w.there g 0 cs.size := fun j hj => by
  refine ⟨?_, h.frozen _⟩
  rw [h.cell, Nat.zero_add]; simp [hj]
theorem box_stored {t : TypeId} {g : Nat} {cs : Array Value} {w : World} (h : Box g cs t w) (cells : Array Value) (hs : cells.size = cs.size) : Box g cells t (w.setCells g 0 cells.toList) := by
  obtain ⟨cs', h1, h2⟩ := box_setCells g cells.toList 0 w cs h
  have e : cs' = cells := by
    apply Array.ext (by omega)
    intro i hi1 hi2
    have hc := h2.cell i
    have hin := World.cell?_setCells_in g cells.toList 0 w (fun j hj => by have := (box_there h j (by simp at hj; omega)).1; simpa using this) i (by simpa using hi2)
    rw [Nat.zero_add] at hin
    rw [hin, Array.getElem?_eq_getElem hi1] at hc
    have := Option.some.inj hc
    simpa using this.symm
  rw [← e]; rw [← e] at h2; exact h2

theorem wpList_store_box {P : Program} {ops : Array Oper} {rest : List Oper} {op : Oper} {a : Act} {w : World} {Q : Exit → Act → World → Prop} (hgd : op.guard = none) (ty : TypeId) (x y : Operand) (ho : op.op = .store ty x y)
    (g : Nat) (cs : Array Value) (t : TypeId) (hb : Box g cs t w) (cells : Array Value) (hx : a.eval x = .pointer (some ⟨g, 0, none⟩)) (hy : a.eval y = .agg cells) (hs : cells.size = cs.size)
    (hi : (P.info? ty).map (·.size) = some cells.size) (h1 : cells.all (·.oneCell') = true)
    (h : ∀ w', Box g cells t w' → w.grownBy w' (some g) → wpList P ops Q rest (a.put op.dst undef) w') : wpList P ops Q (op :: rest) a w :=
  wpList_store_mid hgd ty x y ho g 0 cells hx hy (by rw [hs]; exact box_there hb) hi h1 (h _ (box_stored hb cells hs) (grown_setCells g _ 0 w))
/-- A store of a struct into a part of a block that is known whole. -/
def setAll : Array Value → Nat → List Value → Array Value
  | cs, _, [] => cs
  | cs, o, v :: r => setAll (cs.setIfInBounds o v) (o + 1) r
theorem box_setAll {t : TypeId} (g : Nat) : ∀ (vs : List Value) (o : Nat) (w : World) (cs : Array Value), Box g cs t w → Box g (setAll cs o vs) t (w.setCells g o vs)
  | [], _, _, _, h => h
  | v :: r, o, w, _, h => box_setAll g r (o + 1) (w.setCell ⟨g, o, none⟩ v) _ (h.set o v)
theorem box_there_part {t : TypeId} {g : Nat} {cs : Array Value} {w : World} (h : Box g cs t w) (o n : Nat) (hn : o + n ≤ cs.size) : w.there g o n := fun j hj => by
  refine ⟨?_, h.frozen _⟩
  rw [h.cell]; simp; omega
theorem wpList_store_part {P : Program} {ops : Array Oper} {rest : List Oper} {op : Oper} {a : Act} {w : World} {Q : Exit → Act → World → Prop} (hgd : op.guard = none) (ty : TypeId) (x y : Operand) (ho : op.op = .store ty x y)
    (g o : Nat) (cs : Array Value) (t : TypeId) (hb : Box g cs t w) (cells : Array Value) (hx : a.eval x = .pointer (some ⟨g, o, none⟩)) (hy : a.eval y = .agg cells) (hs : o + cells.size ≤ cs.size)
    (hi : (P.info? ty).map (·.size) = some cells.size) (h1 : cells.all (·.oneCell') = true)
    (h : ∀ w', Box g (setAll cs o cells.toList) t w' → w.grownBy w' (some g) → wpList P ops Q rest (a.put op.dst undef) w') : wpList P ops Q (op :: rest) a w :=
  wpList_store_mid hgd ty x y ho g o cells hx hy (box_there_part hb o _ hs) hi h1 (h _ (box_setAll g _ o _ _ hb) (grown_setCells g _ o w))
/-- The same two laws at a step of a region that draws its order. -/
theorem step_store_box {P : Program} {ops : Array Oper} {o : Oper} {a : Act} {w : World} {K : Act → World → Prop} {Q : Exit → Act → World → Prop} {E : Prop} (hgd : o.guard = none) (ty : TypeId) (x y : Operand) (ho : o.op = .store ty x y)
    (g : Nat) (cs : Array Value) (t : TypeId) (hb : Box g cs t w) (cells : Array Value) (hx : a.eval x = .pointer (some ⟨g, 0, none⟩)) (hy : a.eval y = .agg cells) (hs : cells.size = cs.size)
    (hi : (P.info? ty).map (·.size) = some cells.size) (h1 : cells.all (·.oneCell') = true)
    (h : ∀ w', Box g cells t w' → w.grownBy w' (some g) → K (a.put o.dst undef) w') : if Region.wanted o (yielded ops a.tmps) = true then Oper.wp P o a w K Q else E := by
  have hw : Region.wanted o (yielded ops a.tmps) = true := by simp [Region.wanted, hgd]
  rw [if_pos hw]
  exact wp_store_mid ty x y ho g 0 cells hx hy (by rw [hs]; exact box_there hb) hi h1 (h _ (box_stored hb cells hs) (grown_setCells g _ 0 w))
theorem step_store_part {P : Program} {ops : Array Oper} {op : Oper} {a : Act} {w : World} {K : Act → World → Prop} {Q : Exit → Act → World → Prop} {E : Prop} (hgd : op.guard = none) (ty : TypeId) (x y : Operand) (ho : op.op = .store ty x y)
    (g o : Nat) (cs : Array Value) (t : TypeId) (hb : Box g cs t w) (cells : Array Value) (hx : a.eval x = .pointer (some ⟨g, o, none⟩)) (hy : a.eval y = .agg cells) (hs : o + cells.size ≤ cs.size)
    (hi : (P.info? ty).map (·.size) = some cells.size) (h1 : cells.all (·.oneCell') = true)
    (h : ∀ w', Box g (setAll cs o cells.toList) t w' → w.grownBy w' (some g) → K (a.put op.dst undef) w') : if Region.wanted op (yielded ops a.tmps) = true then Oper.wp P op a w K Q else E := by
  have hw : Region.wanted op (yielded ops a.tmps) = true := by simp [Region.wanted, hgd]
  rw [if_pos hw]
  exact wp_store_mid ty x y ho g o cells hx hy (box_there_part hb o _ hs) hi h1 (h _ (box_setAll g _ o _ _ hb) (grown_setCells g _ o w))
/-- Two results: a struct in a block that is known whole, and a value. -/
theorem results_box2 {P : Program} {fn : Func} {p u : Tmp} {ty : TypeId} (h : fn.results = #[.cell p ty, .tmp u]) (tmps : Array Value) (w : World) (g : Nat) (t : TypeId) (cs : Array Value) (d : TypeDesc) (r : Value)
    (hp : tmps.getD p undef = .pointer (some ⟨g, 0, none⟩)) (hr : tmps.getD u undef = r) (hg : Box g cs t w)
    (hu : P.underlying ty = some d) (hd : (match d with | .struct _ | .array _ _ => true | _ => false) = true) (hi : (P.info? ty).map (·.size) = some cs.size) :
    (results fn tmps).run P w = .ok (.tuple #[.agg cs, r]) w := by
  rw [results_cell_tmp h, hp, hr]
  simp [asAddr, run_loadVar_row w g t ty cs (0, 0) d hg hu hd hi, Result.andThen]
end Go.Proofs.Ytekdnhhmiabngaa.row
