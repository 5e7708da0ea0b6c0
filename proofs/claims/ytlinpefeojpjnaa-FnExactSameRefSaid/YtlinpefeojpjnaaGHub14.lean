/- Several texts in one: RngA RngB BlkE. -/
import Derived.Test.YtlinpefeojpjnaaGHub0
import Derived.Test.YtlinpefeojpjnaaGHub2
import Derived.RangeFuncNested
import Derived.RangeFuncBound
import Derived.RangeFuncLeaves
import Derived.RangeFuncRecord
import Derived.Test.YtlinpefeojpjnaaGHub10
import Derived.Test.YtlinpefeojpjnaaGHub8

/- A range over a function of the program's own whose rounds are handed memory that the iterator has just made: a walk outside a round serves within one; one law for the loop, over what holds at each call of yield and what a round keeps. -/
namespace Go.Proofs.Ytlinpefeojpjnaa.rng
open Go Go.RowKit Go.Proofs.Ytlinpefeojpjnaa.row
variable {P : Program}

/-- The fence that lets everything in, and a round within it. -/
def Wide (F : Fence) : Prop := F = Fence.wide ∨ ∃ l, F = Fence.wide.inRound l
theorem wide_wide : Wide Fence.wide := .inl rfl
theorem wide_round (l : Nat) : Wide (Fence.wide.inRound l) := .inr ⟨l, rfl⟩
theorem calls_in {F : Fence} (hF : Wide F) {n : Nat} {f : FuncId} {args : Array Value} {w : World} {R : Ending → World → Prop} (h : Calls P f args w R) : CallsIn F n P f args w R := by
  rcases hF with rfl | ⟨l, rfl⟩
  · exact callsIn_wide.2 h
  · exact CallsIn.inRound l (callsIn_wide.2 h)
/-- An operation's law outside a round serves within one. -/
theorem oper_in {F : Fence} (hF : Wide F) {n : Nat} {o : Oper} {a : Act} {w : World} {K : Act → World → Prop} {Q : Exit → Act → World → Prop} (hd : ∀ c, o.op ≠ .defer c) (v : Value) (w' : World)
    (hr : (execOp a.eval o).run P w = .ok (.value v) w' ∨ ((execOp a.eval o).run P w = .ok .skip w' ∧ v = undef)) (h : K (a.put o.dst v) w') : o.wpIn F n P a w K Q := by
  refine ⟨fun _ _ => by rcases hF with rfl | ⟨l, rfl⟩ <;> trivial, ?_⟩
  rw [Oper.semAt_eq _ _ _ hd]
  rcases hr with hr | ⟨hr, rfl⟩
  · rw [hr]; exact h
  · rw [hr]; exact h
/-- What a round that goes on leaves behind. -/
def goesOn (T : World → Prop) : Exit → Act → World → Prop
  | .normal, _, W => T W
  | _, _, _ => False

/-- A range over an iterator. 'Px': what holds when a round is called; 'Kp': what a round keeps. -/
theorem wp_range {α : Type} {g : Operand} {ps : Array Tmp} {assign body : Code} {Q : Exit → Act → World → Prop} {a : Act} {w : World} {gf : Nat} {lb : Array Value}
    (hg : a.eval g = .func (.func gf) #[] lb) (eg : ∀ args w, (callFunc gf args).run P w = .ok (.enter gf args) w)
    (encs : α → Array Value) (hps : ∀ x, (encs x).size = ps.size) (Px : List α → α → World → Prop) (Kp : World → World → Prop) (S : List α → Prop)
    (hseq : ∀ (l : Nat) (J : List α → World → Prop) (W : World), Below w.heap.size w W → (∀ pre A B, J pre A → Below A.heap.size A B → J pre B) →
      (∀ pre x W1, J pre W1 → Px pre x W1 → YieldAt Fence.wide 0 P l (encs x) W1 fun e W' => e = .returned (.bool true) ∧ J (pre ++ [x]) W' ∧ Kp W1 W') → J [] W →
      Calls P gf (#[.func (.yield l) #[] #[]] ++ lb) W fun e W' => (∃ v, e = .returned v) ∧ ∃ xs, S xs ∧ J xs W')
    (hKt : ∀ {A B C : World}, Kp A B → Kp B C → Kp A C)
    (hKb : ∀ (W : World) (l : Nat) (o o' : Obj), w.heap.size ≤ l → W.heap[l]? = some o → o.isCells = false → Kp W (W.putObj l o'))
    (I : List α → World → Prop) (hI : OwnFrom w.heap.size I) (h0 : I [] w)
    (hround : ∀ (l : Nat) (pre : List α) (x : α) (W : World), I pre W → Px pre x W →
      assign.wpIn (Fence.wide.inRound l) 0 P (Exit.then (fun a₁ W₁ => KeepsFrom w.heap.size W W₁ ∧ Kp W W₁ ∧
        ∀ W₂ o, w.heap.size ≤ l → W₁.heap[l]? = some o → o.isCells = false → W₁.grownBy W₂ (some l) →
          body.wpIn (Fence.wide.inRound l) 0 P (goesOn fun W' => KeepsFrom w.heap.size W₂ W' ∧ Kp W₂ W' ∧ I (pre ++ [x]) W') a₁ W₂) (fun _ _ _ => False))
        { tmps := (ps.zip (encs x)).foldl (fun t (p, v) => t.setIfInBounds p v) a.tmps, defers := [] } W)
    (hdone : ∀ (D : Nat) (xs : List α) (W : World), w.heap.size ≤ D → S xs → I xs W → W.heap[D]? = some (.deferred (some [])) → Q .normal { a with defers := { target := .collected D, args := #[] } :: a.defers } W) :
    (Code.rangeFunc g ps assign body).wp P Q a w := by
  refine (wpIn_wide (n := 0)).1 (wpIn_rangeFunc fun fn _ => ?_)
  rw [Fence.wide_round]
  obtain ⟨rc, hrc⟩ : ∃ rc : LoopState → Loop, rc = fun st => { state := st, pending := none, fn, tmps := a.tmps, params := ps, assign, body, defers := w.heap.size } := ⟨_, rfl⟩
  obtain ⟨B, hB⟩ : ∃ B, (w.alloc (.deferred (some []))).alloc (.loop (rc .ready)) = B := ⟨_, rfl⟩
  have hBD : Below w.heap.size w (w.alloc (.deferred (some []))) := below_new w _
  have hBB : Below (w.heap.size + 1) (w.alloc (.deferred (some []))) B := by
    have := below_new (w.alloc (.deferred (some []))) (.loop (rc .ready))
    rw [World.size_alloc, hB] at this
    exact this
  have hlB : B.heap[w.heap.size + 1]? = some (.loop (rc .ready)) := by
    have := World.alloc_heap_new (w.alloc (.deferred (some []))) (.loop (rc .ready))
    rw [World.size_alloc, hB] at this
    exact this
  have hdB : B.heap[w.heap.size]? = some (.deferred (some [])) := (hBB.block _ (by omega)).trans (World.alloc_heap_new w _)
  have hbB : Below w.heap.size w B := hBD.trans (hBB.mono (by omega))
  have hiB : I [] B := hI _ _ _ none h0 (grown_below hbB none) (fun r e => by cases e)
  have hltB : w.heap.size + 1 < B.heap.size := (Array.getElem?_eq_some_iff.1 hlB).1
  refine ⟨w.heap.size + 1, [{ target := .collected w.heap.size, args := #[] }], B, { target := .fn (.func gf) lb, args := #[.func (.yield (w.heap.size + 1)) #[] #[]] }, B, gf, #[.func (.yield (w.heap.size + 1)) #[] #[]] ++ lb, B, ?_, ?_, fun _ _ => trivial, ?_, fun h => (by cases h), ?_⟩
  · rw [← hB, hrc]; exact run_enterLoop_outer _ _ _ _ _
  · simp only [resolve, hg]; simp [go_sem]
  · simp [invoke, go_sem, eg]
  refine callsIn_wide.2 ((hseq (w.heap.size + 1) (fun pre W => I pre W ∧ W.heap[w.heap.size + 1]? = some (.loop (rc .ready)) ∧ W.heap[w.heap.size]? = some (.deferred (some []))) B hbB ?_ ?_ ⟨hiB, hlB, hdB⟩).mono ?_)
  · rintro pre X Y ⟨hi, hl, hd⟩ hb
    exact ⟨hI _ _ _ none hi (grown_below hb none) (fun r e => by cases e), (hb.block _ (Array.getElem?_eq_some_iff.1 hl).1).trans hl, (hb.block _ (Array.getElem?_eq_some_iff.1 hd).1).trans hd⟩
  · rintro pre x W ⟨hi, hl, hd⟩ hp
    have hy := run_yield (P := P) (args := encs x) hl (by rw [hrc]; exact hps x)
    rw [hrc] at hy
    refine ⟨fn, _, assign, body, hy, roundIn_of_wpIn trivial (wpIn_mono (hround (w.heap.size + 1) pre x W hi hp) ?_)⟩
    intro e a₁ W₁ h1
    cases e with
    | normal =>
      obtain ⟨hk1, hp1, hrest⟩ := h1
      have hl1 := hk1.same _ _ (by omega) hl rfl
      have hd1 := hk1.same _ _ (Nat.le_refl _) hd rfl
      have hlt1 : w.heap.size + 1 < W₁.heap.size := (Array.getElem?_eq_some_iff.1 hl1).1
      refine ⟨_, run_beginRound hl1 (by rw [hrc]), wpIn_mono (hrest _ _ (by omega) hl1 rfl (grownBy_putObj' _ _ _)) ?_⟩
      have hl2 := World.putObj_heap_same (o := .loop { rc .ready with state := .busy }) hlt1
      have hd2 : (W₁.putObj (w.heap.size + 1) (.loop { rc .ready with state := .busy })).heap[w.heap.size]? = some (.deferred (some [])) := (World.putObj_heap_other (by omega)).trans hd1
      intro e2 a₂ W₃ h2
      cases e2 with
      | normal =>
        obtain ⟨hk3, hp3, hi3⟩ := h2
        have hl3 := hk3.same _ _ (by omega) hl2 rfl
        have hd3 := hk3.same _ _ (Nat.le_refl _) hd2 rfl
        have he := run_endRound (P := P) none hl3
        refine ⟨_, _, he, rfl, ⟨?_, ?_, ?_⟩, ?_⟩
        · exact hI _ _ _ _ hi3 (grownBy_putObj' _ _ _) (fun r e => by cases e; exact ⟨by omega, _, hl3, rfl⟩)
        · rw [World.putObj_heap_same (Array.getElem?_eq_some_iff.1 hl3).1, hrc]; rfl
        · exact (World.putObj_heap_other (by omega)).trans hd3
        · exact hKt hp1 (hKt (hKb _ _ _ _ (by omega) hl1 rfl) (hKt hp3 (hKb _ _ _ _ (by omega) hl3 rfl)))
      | ret => exact h2.elim
      | exit id => exact h2.elim
      | goto t => exact h2.elim
      | panic c => exact h2.elim
      | outgrown => exact h2.elim
    | ret => exact h1.elim
    | exit id => exact h1.elim
    | goto t => exact h1.elim
    | panic c => exact h1.elim
    | outgrown => exact h1.elim
  · rintro e W ⟨⟨v, rfl⟩, xs, hS, hi, hl, hd⟩
    have he := run_endLoop (P := P) hl (by rw [hrc]; simp)
    refine ⟨none, _, by rw [he, hrc], ?_⟩
    exact hdone _ xs _ (Nat.le_refl _) hS (hI _ _ _ _ hi (grownBy_putObj' _ _ _) (fun r e => by cases e; exact ⟨by omega, _, hl, rfl⟩)) ((World.putObj_heap_other (by omega)).trans hd)
/-- A function's contract out of its body's walk, where the body holds a range over a function. -/
theorem calls_of_wp_range {f : FuncId} {fn : Func} {c : Code} {args : Array Value} {w : World} {R : Ending → World → Prop} (hf : P.funcs[f]? = some fn) (hb : fn.body = some c)
    (h : c.wp P (bodyPostM Fence.wide 0 P fn R) { tmps := args ++ Array.replicate (fn.ntmps - args.size) undef, defers := [] } w) : Calls P f args w R :=
  callsIn_wide.1 (callsIn_of_wp_marks (n := 0) hf hb trivial (wpIn_wide.2 h) rfl)
end Go.Proofs.Ytlinpefeojpjnaa.rng

/- What a round of a loop over the reference run's tasks keeps: everything but the block of the loop's own variable and the row that it holds; the yielded effects. -/
namespace Go.Proofs.Ytlinpefeojpjnaa.ref
open Go Go.ChangeShapes Go.WideShapes Go.ChangeAt Go.RowKit Go.Proofs.Ytlinpefeojpjnaa.row Go.Proofs.Ytlinpefeojpjnaa.val Go.Proofs.Ytlinpefeojpjnaa.expr Go.Proofs.Ytlinpefeojpjnaa.stm Go.Proofs.Ytlinpefeojpjnaa.blk Go.Proofs.Ytlinpefeojpjnaa.prg Go.Proofs.Ytlinpefeojpjnaa.exe Go.Proofs.Ytlinpefeojpjnaa.srow Go.Proofs.Ytlinpefeojpjnaa.rng

/-- Nothing below 'B' is written, and of the rest only the block of 'p' and the row that the cell at 'p' holds; that row stays or moves to new memory. -/
def KeptBut (B : Nat) (p : Addr) (W W' : World) : Prop :=
  Below B W W' ∧ ∀ v, W.cell? p = some v → (∃ v', W'.cell? p = some v' ∧ (∀ b, v'.ownBlock = some b → v.ownBlock = some b ∨ W.heap.size ≤ b) ∧ ((∀ b, v.ownBlock = some b → b < W.heap.size) → ∀ b, v'.ownBlock = some b → b < W'.heap.size)) ∧
    ∀ b cs t fr, W.heap[b]? = some (.cells cs t fr) → b ≠ p.block → v.ownBlock ≠ some b → W'.heap[b]? = some (.cells cs t fr)
theorem lt_of_heap {W : World} {b : Nat} {o : Obj} (h : W.heap[b]? = some o) : b < W.heap.size := (Array.getElem?_eq_some_iff.1 h).1
theorem KeptBut.trans {B : Nat} {p : Addr} {X Y Z : World} (h : KeptBut B p X Y) (k : KeptBut B p Y Z) : KeptBut B p X Z := by
  refine ⟨h.1.trans k.1, fun v hv => ?_⟩
  obtain ⟨⟨v', hv', h1, h3⟩, h2⟩ := h.2 v hv
  obtain ⟨⟨v2, hv2, k1, k3⟩, k2⟩ := k.2 v' hv'
  refine ⟨⟨v2, hv2, fun b hb => ?_, fun hl => k3 (h3 hl)⟩, fun b cs t fr hg hp ho => k2 b cs t fr (h2 b cs t fr hg hp ho) hp (fun e => ?_)⟩
  · rcases k1 b hb with e | e
    · exact h1 b e
    · exact .inr (Nat.le_trans h.1.size e)
  · rcases h1 b e with e | e
    · exact ho e
    · have := lt_of_heap hg; omega
theorem KeptBut.of_below {B : Nat} {p : Addr} {W W' : World} (hb : Below W.heap.size W W') (hB : B ≤ W.heap.size) : KeptBut B p W W' :=
  ⟨hb.mono hB, fun v hv => ⟨⟨v, (hb.cell (p := p) (World.block_lt_of_cell? W p hv)).trans hv, fun _ e => .inl e, fun hl b e => Nat.lt_of_lt_of_le (hl b e) hb.size⟩, fun b _ _ _ hg _ _ => (hb.block b (lt_of_heap hg)).trans hg⟩⟩
theorem KeptBut.putObj {B : Nat} {p : Addr} (W : World) (l : Nat) (o o' : Obj) (hB : B ≤ l) (hl : W.heap[l]? = some o) (ho : o.isCells = false) : KeptBut B p W (W.putObj l o') := by
  have hg := grownBy_putObj' W l o'
  refine ⟨(Below.refl B W).grown hg (Nat.le_trans hB (Nat.le_of_lt (lt_of_heap hl))) (fun k e => by cases e; exact hB), fun v hv => ⟨⟨v, cell_kept hv hg (fun r e => by cases e; exact ⟨o, hl, ho⟩), fun _ e => .inl e, fun hl b e => Nat.lt_of_lt_of_le (hl b e) hg.size⟩, fun b cs t fr hb _ _ => ?_⟩⟩
  refine (hg.block b (lt_of_heap hb) (fun e => ?_)).trans hb
  cases e; rw [hb] at hl; cases hl; cases ho
/-- A row of numbers stays where its block stays. -/
theorem row_kept {W W' : World} {a : Option Addr} {n : Nat} {L : List Int} (h : Row W a n L) (hs : W.heap.size ≤ W'.heap.size) (hk : ∀ b off cs t fr, a = some ⟨b, off, none⟩ → W.heap[b]? = some (.cells cs t fr) → W'.heap[b]? = some (.cells cs t fr)) : Row W' a n L :=
  ⟨h.1, fun k hkn => by
    obtain ⟨b, off, x, e, hlt, hx, hc⟩ := h.2 k hkn
    refine ⟨b, off, x, e, Nat.lt_of_lt_of_le hlt hs, hx, ?_⟩
    obtain ⟨o, ho, hcs⟩ := cells_of_cell hc
    cases o with
    | cells cs t fr => exact (World.cell?_of_block ((hk b off cs t fr e ho).trans ho.symm)).trans hc
    | _ => cases hcs⟩
theorem EffMem.below {B : Nat} {a1 : Option Addr} {n1 c1 : Nat} {a2 : Option Addr} {n2 c2 : Nat} {E : Eff} {w w' : World} (h : EffMem B a1 n1 c1 a2 n2 c2 E w) (hb : Below w.heap.size w w') : EffMem B a1 n1 c1 a2 n2 c2 E w' :=
  ⟨h.1.kept (grown_below hb none) (by cases a1 <;> simp [Value.ownBlock]), h.2.1.kept (grown_below hb none) (by cases a2 <;> simp [Value.ownBlock]), h.2.2⟩
theorem EffMem.mono {B C : Nat} {a1 : Option Addr} {n1 c1 : Nat} {a2 : Option Addr} {n2 c2 : Nat} {E : Eff} {w : World} (h : EffMem B a1 n1 c1 a2 n2 c2 E w) (hB : C ≤ B) : EffMem C a1 n1 c1 a2 n2 c2 E w :=
  ⟨h.1.mono hB, h.2.1.mono hB, h.2.2⟩
theorem own_capR {w : World} {B n c : Nat} {a : Option Addr} {t : TypeId} {xs : List Value} (h : w.ownsRow B t 1 (.slice a n c) n xs) : n ≤ c := by
  rcases h.2 with ⟨e, e0⟩ | ⟨g, cap, cur, e, _, _, hnc, _⟩
  · omega
  · cases e; exact hnc
/-- A yielded task: its number and its effect, as values. -/
structure Yl where
  (T : Int) (a1 : Option Addr) (n1 c1 : Nat) (a2 : Option Addr) (n2 c2 : Nat) (E : Eff)
abbrev Yl.vs (x : Yl) : Array Value := #[.int .i64 x.T, effV x.a1 x.n1 x.c1 x.a2 x.n2 x.c2 x.E]
def lastT (i : Int) (pre : List Yl) : Int := match pre.getLast? with | some x => x.E.N | none => i
def lastV (V : List Int) (pre : List Yl) : List Int := match pre.getLast? with | some x => x.E.V | none => V
theorem lastT_nil (i : Int) : lastT i [] = i := rfl
theorem lastV_nil (V : List Int) : lastV V [] = V := rfl
theorem lastT_snoc (i : Int) (pre : List Yl) (x : Yl) : lastT i (pre ++ [x]) = x.E.N := by simp [lastT]
theorem lastV_snoc (V : List Int) (pre : List Yl) (x : Yl) : lastV V (pre ++ [x]) = x.E.V := by simp [lastV]
/-- What holds when a task is yielded: it is the next one of the run, and its effect lies in new memory, apart from the row that the cell at 'p' holds. -/
def Yields (B : Nat) (p : Addr) (P : List Tk) (V : List Int) (i : Int) (UU : List (List Int)) (pre : List Yl) (x : Yl) (W : World) : Prop :=
  (∃ u, UU[pre.length]? = some u ∧ x.T = lastT i pre ∧ EffIs P (lastV V pre) u (lastT i pre) true x.E) ∧ EffMem B x.a1 x.n1 x.c1 x.a2 x.n2 x.c2 x.E W ∧
    ∀ b, (Value.slice x.a1 x.n1 x.c1).ownBlock = some b ∨ (Value.slice x.a2 x.n2 x.c2).ownBlock = some b → b ≠ p.block ∧ ∀ v, W.cell? p = some v → v.ownBlock ≠ some b
/-- The run up to the yielded tasks. -/
theorem run_snoc {P : List Tk} {V : List Int} {i : Int} {UU : List (List Int)} {pre : List Yl} {x : Yl} {u : List Int} {R : Rf} (hu : UU[pre.length]? = some u) (hE : EffIs P (lastV V pre) u (lastT i pre) true x.E)
    (hR : RunR P (UU.take pre.length) ⟨V, [], i⟩ R) (hV : R.V = lastV V pre) (hT : R.T = lastT i pre) : RunR P (UU.take (pre ++ [x]).length) ⟨V, [], i⟩ ⟨x.E.V, box R.S x.E.S, x.E.N⟩ := by
  rw [List.length_append, List.length_singleton, List.take_add_one, hu]
  refine hR.snoc ⟨x.E, by rw [hV, hT]; exact hE, rfl⟩
theorem tasks_snoc {P : List Tk} {V : List Int} {i : Int} {UU : List (List Int)} {pre : List Yl} {x : Yl} {u : List Int} {R : Rf} {L : List Int} (hu : UU[pre.length]? = some u) (hE : EffIs P (lastV V pre) u (lastT i pre) true x.E)
    (hR : RunR P (UU.take pre.length) ⟨V, [], i⟩ R) (hV : R.V = lastV V pre) (hT : R.T = lastT i pre) (hL : RunT P (UU.take pre.length) V i L) : RunT P (UU.take (pre ++ [x]).length) V i (L ++ [lastT i pre]) := by
  rw [List.length_append, List.length_singleton, List.take_add_one, hu, ← hT]
  exact hL.snoc hR (by rw [hV, hT]; exact hE)
end Go.Proofs.Ytlinpefeojpjnaa.ref

/- Chapter 5's model: what opens, the matching end, EndOf, DepthOf: what the plain relations say; nothing that was there is written. -/
namespace Go.Proofs.Ytlinpefeojpjnaa.blk
open Go Go.ChangeShapes Go.WideShapes Go.ChangeAt Go.RowKit Go.Proofs.Ytlinpefeojpjnaa.row Go.Proofs.Ytlinpefeojpjnaa.val Go.Proofs.Ytlinpefeojpjnaa.expr Go.Proofs.Ytlinpefeojpjnaa.stm

theorem endIs_not {L : List Go.Proofs.Ytlinpefeojpjnaa.stm.St} {i x : Int} (h : EndIs L i x) (hn : ¬ IsBlk L ∨ i < 0 ∨ (L.length : Int) ≤ i) : x = -1 := by
  rcases h with ⟨j, e, rfl, hb, he, rfl⟩ | ⟨rfl, _⟩
  · rcases hn with hn | hn | hn
    · exact absurd hb hn
    · omega
    · have := he.1; have := he.2.1; omega
  · rfl
theorem endIs_flat {L : List Go.Proofs.Ytlinpefeojpjnaa.stm.St} {j : Nat} {x : Int} {s : Go.Proofs.Ytlinpefeojpjnaa.stm.St} (h : EndIs L j x) (hs : L[j]? = some s) (ho : opn s = false) : x = -1 := by
  rcases h with ⟨j', e, hj, hb, he, rfl⟩ | ⟨rfl, _⟩
  · obtain rfl : j = j' := by omega
    obtain ⟨t, ht, hot⟩ := he.opens
    rw [hs] at ht; cases ht; rw [ho] at hot; cases hot
  · rfl
theorem endIs_yes {L : List Go.Proofs.Ytlinpefeojpjnaa.stm.St} {j e : Nat} {x : Int} (h : EndIs L j x) (hb : IsBlk L) (he : IsEnd L j e) : x = e := h.unique (.inl ⟨j, e, rfl, hb, he, rfl⟩)
end Go.Proofs.Ytlinpefeojpjnaa.blk
