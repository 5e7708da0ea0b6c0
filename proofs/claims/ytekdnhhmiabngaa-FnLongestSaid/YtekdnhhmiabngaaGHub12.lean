/- Several texts in one: RngB BlkE. -/
import Derived.Test.YtekdnhhmiabngaaGHub1
import Derived.Test.YtekdnhhmiabngaaGHub11
import Derived.Test.YtekdnhhmiabngaaGHub8

/- What a round of a loop over the reference run's tasks keeps: everything but the block of the loop's own variable and the row that it holds; the yielded effects. -/
namespace Go.Proofs.Ytekdnhhmiabngaa.ref
open Go Go.ChangeShapes Go.WideShapes Go.ChangeAt Go.RowKit Go.Proofs.Ytekdnhhmiabngaa.row Go.Proofs.Ytekdnhhmiabngaa.val Go.Proofs.Ytekdnhhmiabngaa.expr Go.Proofs.Ytekdnhhmiabngaa.stm Go.Proofs.Ytekdnhhmiabngaa.blk Go.Proofs.Ytekdnhhmiabngaa.prg Go.Proofs.Ytekdnhhmiabngaa.exe Go.Proofs.Ytekdnhhmiabngaa.srow Go.Proofs.Ytekdnhhmiabngaa.rng

/-- Nothing below 'B' is written, and of the rest only the block of 'p' and the row that the cell at 'p' holds; that row stays or moves to new memory. -/
def KeptBut (B : Nat) (p : Addr) (W W' : World) : Prop :=
  Below B W W' ∧ ∀ v, W.cell? p = some v → (∃ v', W'.cell? p = some v' ∧ (∀ b, v'.ownBlock = some b → v.ownBlock = some b ∨ W.heap.size ≤ b) ∧ ((∀ b, v.ownBlock = some b → b < W.heap.size) → ∀ b, v'.ownBlock = some b → b < W'.heap.size)) ∧
    ∀ b cs t fr, W.heap[b]? = some (.cells cs t fr) → b ≠ p.block → v.ownBlock ≠ some b → W'.heap[b]? = some (.cells cs t fr)
theorem lt_of_heap {W : World} {b : Nat} {o : Obj} (h : W.heap[b]? = some o) : b < W.heap.size := (Array.getElem?_eq_some_iff.1 h).1
theorem KeptBut.trans {B : Nat} {p : Addr} {X Y Z : World} (h : KeptBut B p X Y) (k : KeptBut B p Y Z) : KeptBut B p X Z := by
  refine ⟨h.1.trans k.1, fun v hv => ?_⟩
  obtain ⟨⟨v', hv', h1, h3⟩, h2⟩ := h.2 v hv
  obtain ⟨⟨v2, hv2, k1, k3⟩, k2⟩ := k.2 v' hv'
  refine ⟨⟨v2, hv2, fun b hb => ?_, fun hl => k3 (h3 hl)⟩, fun b cs t fr hg hp ho => k2 b cs t fr (h2 b cs t fr hg hp ho) hp (fun e => ?_)⟩
  · rcases k1 b hb with e | e
    · exact h1 b e
    · exact .inr (Nat.le_trans h.1.size e)
  · rcases h1 b e with e | e
    · exact ho e
    · have := lt_of_heap hg; omega
theorem KeptBut.of_below {B : Nat} {p : Addr} {W W' : World} (hb : Below W.heap.size W W') (hB : B ≤ W.heap.size) : KeptBut B p W W' :=
  ⟨hb.mono hB, fun v hv => ⟨⟨v, (hb.cell (p := p) (World.block_lt_of_cell? W p hv)).trans hv, fun _ e => .inl e, fun hl b e => Nat.lt_of_lt_of_le (hl b e) hb.size⟩, fun b _ _ _ hg _ _ => (hb.block b (lt_of_heap hg)).trans hg⟩⟩
theorem KeptBut.putObj {B : Nat} {p : Addr} (W : World) (l : Nat) (o o' : Obj) (hB : B ≤ l) (hl : W.heap[l]? = some o) (ho : o.isCells = false) : KeptBut B p W (W.putObj l o') := by
  have hg := grownBy_putObj' W l o'
  refine ⟨(Below.refl B W).grown hg (Nat.le_trans hB (Nat.le_of_lt (lt_of_heap hl))) (fun k e => by cases e; exact hB), fun v hv => ⟨⟨v, cell_kept hv hg (fun r e => by cases e; exact ⟨o, hl, ho⟩), fun _ e => .inl e, fun hl b e => Nat.lt_of_lt_of_le (hl b e) hg.size⟩, fun b cs t fr hb _ _ => ?_⟩⟩
  refine (hg.block b (lt_of_heap hb) (fun e => ?_)).trans hb
  cases e; rw [hb] at hl; cases hl; cases ho
/-- A row of numbers stays where its block stays. -/
theorem row_kept {W W' : World} {a : Option Addr} {n : Nat} {L : List Int} (h : Row W a n L) (hs : W.heap.size ≤ W'.heap.size) (hk : ∀ b off cs t fr, a = some ⟨b, off, none⟩ → W.heap[b]? = some (.cells cs t fr) → W'.heap[b]? = some (.cells cs t fr)) : Row W' a n L :=
  ⟨h.1, fun k hkn => by
    obtain ⟨b, off, x, e, hlt, hx, hc⟩ := h.2 k hkn
    refine ⟨b, off, x, e, Nat.lt_of_lt_of_le hlt hs, hx, ?_⟩
    obtain ⟨o, ho, hcs⟩ := cells_of_cell hc
    cases o with
    | cells cs t fr => exact (World.cell?_of_block ((hk b off cs t fr e ho).trans ho.symm)).trans hc
    | _ => cases hcs⟩
theorem EffMem.below {B : Nat} {a1 : Option Addr} {n1 c1 : Nat} {a2 : Option Addr} {n2 c2 : Nat} {E : Eff} {w w' : World} (h : EffMem B a1 n1 c1 a2 n2 c2 E w) (hb : Below w.heap.size w w') : EffMem B a1 n1 c1 a2 n2 c2 E w' :=
  ⟨h.1.kept (grown_below hb none) (by cases a1 <;> simp [Value.ownBlock]), h.2.1.kept (grown_below hb none) (by cases a2 <;> simp [Value.ownBlock]), h.2.2⟩
theorem EffMem.mono {B C : Nat} {a1 : Option Addr} {n1 c1 : Nat} {a2 : Option Addr} {n2 c2 : Nat} {E : Eff} {w : World} (h : EffMem B a1 n1 c1 a2 n2 c2 E w) (hB : C ≤ B) : EffMem C a1 n1 c1 a2 n2 c2 E w :=
  ⟨h.1.mono hB, h.2.1.mono hB, h.2.2⟩
theorem own_capR {w : World} {B n c : Nat} {a : Option Addr} {t : TypeId} {xs : List Value} (h : w.ownsRow B t 1 (.slice a n c) n xs) : n ≤ c := by
  rcases h.2 with ⟨e, e0⟩ | ⟨g, cap, cur, e, _, _, hnc, _⟩
  · omega
  · cases e; exact hnc
/-- A yielded task: its number and its effect, as values. -/
structure Yl where
  (T : Int) (a1 : Option Addr) (n1 c1 : Nat) (a2 : Option Addr) (n2 c2 : Nat) (E : Eff)
abbrev Yl.vs (x : Yl) : Array Value := #[.int .i64 x.T, effV x.a1 x.n1 x.c1 x.a2 x.n2 x.c2 x.E]
def lastT (i : Int) (pre : List Yl) : Int := match pre.getLast? with | some x => x.E.N | none => i
def lastV (V : List Int) (pre : List Yl) : List Int := match pre.getLast? with | some x => x.E.V | none => V
theorem lastT_nil (i : Int) : lastT i [] = i := rfl
theorem lastV_nil (V : List Int) : lastV V [] = V := rfl
theorem lastT_snoc (i : Int) (pre : List Yl) (x : Yl) : lastT i (pre ++ [x]) = x.E.N := by simp [lastT]
theorem lastV_snoc (V : List Int) (pre : List Yl) (x : Yl) : lastV V (pre ++ [x]) = x.E.V := by simp [lastV]
/-- What holds when a task is yielded: it is the next one of the run, and its effect lies in new memory, apart from the row that the cell at 'p' holds. -/
def Yields (B : Nat) (p : Addr) (P : List Tk) (V : List Int) (i : Int) (UU : List (List Int)) (pre : List Yl) (x : Yl) (W : World) : Prop :=
  (∃ u, UU[pre.length]? = some u ∧ x.T = lastT i pre ∧ EffIs P (lastV V pre) u (lastT i pre) true x.E) ∧ EffMem B x.a1 x.n1 x.c1 x.a2 x.n2 x.c2 x.E W ∧
    ∀ b, (Value.slice x.a1 x.n1 x.c1).ownBlock = some b ∨ (Value.slice x.a2 x.n2 x.c2).ownBlock = some b → b ≠ p.block ∧ ∀ v, W.cell? p = some v → v.ownBlock ≠ some b
/-- The run up to the yielded tasks. -/
theorem run_snoc {P : List Tk} {V : List Int} {i : Int} {UU : List (List Int)} {pre : List Yl} {x : Yl} {u : List Int} {R : Rf} (hu : UU[pre.length]? = some u) (hE : EffIs P (lastV V pre) u (lastT i pre) true x.E)
    (hR : RunR P (UU.take pre.length) ⟨V, [], i⟩ R) (hV : R.V = lastV V pre) (hT : R.T = lastT i pre) : RunR P (UU.take (pre ++ [x]).length) ⟨V, [], i⟩ ⟨x.E.V, box R.S x.E.S, x.E.N⟩ := by
  rw [List.length_append, List.length_singleton, List.take_add_one, hu]
  refine hR.snoc ⟨x.E, by rw [hV, hT]; exact hE, rfl⟩
theorem tasks_snoc {P : List Tk} {V : List Int} {i : Int} {UU : List (List Int)} {pre : List Yl} {x : Yl} {u : List Int} {R : Rf} {L : List Int} (hu : UU[pre.length]? = some u) (hE : EffIs P (lastV V pre) u (lastT i pre) true x.E)
    (hR : RunR P (UU.take pre.length) ⟨V, [], i⟩ R) (hV : R.V = lastV V pre) (hT : R.T = lastT i pre) (hL : RunT P (UU.take pre.length) V i L) : RunT P (UU.take (pre ++ [x]).length) V i (L ++ [lastT i pre]) := by
  rw [List.length_append, List.length_singleton, List.take_add_one, hu, ← hT]
  exact hL.snoc hR (by rw [hV, hT]; exact hE)
end Go.Proofs.Ytekdnhhmiabngaa.ref

/- Chapter 5's model: what opens, the matching end, EndOf, DepthOf: what the plain relations say; nothing that was there is written. -/
namespace Go.Proofs.Ytekdnhhmiabngaa.blk
open Go Go.ChangeShapes Go.WideShapes Go.ChangeAt Go.RowKit Go.Proofs.Ytekdnhhmiabngaa.row Go.Proofs.Ytekdnhhmiabngaa.val Go.Proofs.Ytekdnhhmiabngaa.expr Go.Proofs.Ytekdnhhmiabngaa.stm

theorem endIs_not {L : List Go.Proofs.Ytekdnhhmiabngaa.stm.St} {i x : Int} (h : EndIs L i x) (hn : ¬ IsBlk L ∨ i < 0 ∨ (L.length : Int) ≤ i) : x = -1 := by
  rcases h with ⟨j, e, rfl, hb, he, rfl⟩ | ⟨rfl, _⟩
  · rcases hn with hn | hn | hn
    · exact absurd hb hn
    · omega
    · have := he.1; have := he.2.1; omega
  · rfl
theorem endIs_flat {L : List Go.Proofs.Ytekdnhhmiabngaa.stm.St} {j : Nat} {x : Int} {s : Go.Proofs.Ytekdnhhmiabngaa.stm.St} (h : EndIs L j x) (hs : L[j]? = some s) (ho : opn s = false) : x = -1 := by
  rcases h with ⟨j', e, hj, hb, he, rfl⟩ | ⟨rfl, _⟩
  · obtain rfl : j = j' := by omega
    obtain ⟨t, ht, hot⟩ := he.opens
    rw [hs] at ht; cases ht; rw [ho] at hot; cases hot
  · rfl
theorem endIs_yes {L : List Go.Proofs.Ytekdnhhmiabngaa.stm.St} {j e : Nat} {x : Int} (h : EndIs L j x) (hb : IsBlk L) (he : IsEnd L j e) : x = e := h.unique (.inl ⟨j, e, rfl, hb, he, rfl⟩)
end Go.Proofs.Ytekdnhhmiabngaa.blk
