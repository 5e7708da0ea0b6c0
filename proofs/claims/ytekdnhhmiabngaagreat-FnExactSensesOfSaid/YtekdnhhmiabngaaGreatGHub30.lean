/- Several texts in one: RngA RngB ApS RefH. -/
import Derived.Test.YtekdnhhmiabngaaGreatGHub0
import Derived.Test.YtekdnhhmiabngaaGreatGHub2
import Derived.RangeFuncNested
import Derived.RangeFuncBound
import Derived.RangeFuncLeaves
import Derived.RangeFuncRecord
import Derived.Test.YtekdnhhmiabngaaGreatGHub27
import Derived.Test.YtekdnhhmiabngaaGreatGHub12
import Derived.Maps.AppendAt
import Derived.Laws.AppendOwnNone
import Derived.Lib.SliceRun
import Derived.RegionTactic
import Derived.Test.YtekdnhhmiabngaaGreatGHub23

/- A range over a function of the program's own whose rounds are handed memory that the iterator has just made: a walk outside a round serves within one; one law for the loop, over what holds at each call of yield and what a round keeps. -/
namespace Go.Proofs.YtekdnhhmiabngaaGreat.rng
open Go Go.RowKit Go.Proofs.YtekdnhhmiabngaaGreat.row
variable {P : Program}

/-- The fence that lets everything in, and a round within it. -/
def Wide (F : Fence) : Prop := F = Fence.wide ∨ ∃ l, F = Fence.wide.inRound l
theorem wide_wide : Wide Fence.wide := .inl rfl
theorem wide_round (l : Nat) : Wide (Fence.wide.inRound l) := .inr ⟨l, rfl⟩
theorem calls_in {F : Fence} (hF : Wide F) {n : Nat} {f : FuncId} {args : Array Value} {w : World} {R : Ending → World → Prop} (h : Calls P f args w R) : CallsIn F n P f args w R := by
  rcases hF with rfl | ⟨l, rfl⟩
  · exact callsIn_wide.2 h
  · exact CallsIn.inRound l (callsIn_wide.2 h)
/-- An operation's law outside a round serves within one. -/
theorem oper_in {F : Fence} (hF : Wide F) {n : Nat} {o : Oper} {a : Act} {w : World} {K : Act → World → Prop} {Q : Exit → Act → World → Prop} (hd : ∀ c, o.op ≠ .defer c) (v : Value) (w' : World)
    (hr : (execOp a.eval o).run P w = .ok (.value v) w' ∨ ((execOp a.eval o).run P w = .ok .skip w' ∧ v = undef)) (h : K (a.put o.dst v) w') : o.wpIn F n P a w K Q := by
  refine ⟨fun _ _ => by rcases hF with rfl | ⟨l, rfl⟩ <;> trivial, ?_⟩
  rw [Oper.semAt_eq _ _ _ hd]
  rcases hr with hr | ⟨hr, rfl⟩
  · rw [hr]; exact h
  · rw [hr]; exact h
/-- What a round that goes on leaves behind. -/
def goesOn (T : World → Prop) : Exit → Act → World → Prop
  | .normal, _, W => T W
  | _, _, _ => False

/-- A range over an iterator. 'Px': what holds when a round is called; 'Kp': what a round keeps. -/
theorem wp_range {α : Type} {g : Operand} {ps : Array Tmp} {assign body : Code} {Q : Exit → Act → World → Prop} {a : Act} {w : World} {gf : Nat} {lb : Array Value}
    (hg : a.eval g = .func (.func gf) #[] lb) (eg : ∀ args w, (callFunc gf args).run P w = .ok (.enter gf args) w)
    (encs : α → Array Value) (hps : ∀ x, (encs x).size = ps.size) (Px : List α → α → World → Prop) (Kp : World → World → Prop) (S : List α → Prop)
    (hseq : ∀ (l : Nat) (J : List α → World → Prop) (W : World), Below w.heap.size w W → (∀ pre A B, J pre A → Below A.heap.size A B → J pre B) →
      (∀ pre x W1, J pre W1 → Px pre x W1 → YieldAt Fence.wide 0 P l (encs x) W1 fun e W' => e = .returned (.bool true) ∧ J (pre ++ [x]) W' ∧ Kp W1 W') → J [] W →
      Calls P gf (#[.func (.yield l) #[] #[]] ++ lb) W fun e W' => (∃ v, e = .returned v) ∧ ∃ xs, S xs ∧ J xs W')
    (hKt : ∀ {A B C : World}, Kp A B → Kp B C → Kp A C)
    (hKb : ∀ (W : World) (l : Nat) (o o' : Obj), w.heap.size ≤ l → W.heap[l]? = some o → o.isCells = false → Kp W (W.putObj l o'))
    (I : List α → World → Prop) (hI : OwnFrom w.heap.size I) (h0 : I [] w)
    (hround : ∀ (l : Nat) (pre : List α) (x : α) (W : World), I pre W → Px pre x W →
      assign.wpIn (Fence.wide.inRound l) 0 P (Exit.then (fun a₁ W₁ => KeepsFrom w.heap.size W W₁ ∧ Kp W W₁ ∧
        ∀ W₂ o, w.heap.size ≤ l → W₁.heap[l]? = some o → o.isCells = false → W₁.grownBy W₂ (some l) →
          body.wpIn (Fence.wide.inRound l) 0 P (goesOn fun W' => KeepsFrom w.heap.size W₂ W' ∧ Kp W₂ W' ∧ I (pre ++ [x]) W') a₁ W₂) (fun _ _ _ => False))
        { tmps := (ps.zip (encs x)).foldl (fun t (p, v) => t.setIfInBounds p v) a.tmps, defers := [] } W)
    (hdone : ∀ (D : Nat) (xs : List α) (W : World), w.heap.size ≤ D → S xs → I xs W → W.heap[D]? = some (.deferred (some [])) → Q .normal { a with defers := { target := .collected D, args := #[] } :: a.defers } W) :
    (Code.rangeFunc g ps assign body).wp P Q a w := by
  refine (wpIn_wide (n := 0)).1 (wpIn_rangeFunc fun fn _ => ?_)
  rw [Fence.wide_round]
  obtain ⟨rc, hrc⟩ : ∃ rc : LoopState → Loop, rc = fun st => { state := st, pending := none, fn, tmps := a.tmps, params := ps, assign, body, defers := w.heap.size } := ⟨_, rfl⟩
  obtain ⟨B, hB⟩ : ∃ B, (w.alloc (.deferred (some []))).alloc (.loop (rc .ready)) = B := ⟨_, rfl⟩
  have hBD : Below w.heap.size w (w.alloc (.deferred (some []))) := below_new w _
  have hBB : Below (w.heap.size + 1) (w.alloc (.deferred (some []))) B := by
    have := below_new (w.alloc (.deferred (some []))) (.loop (rc .ready))
    rw [World.size_alloc, hB] at this
    exact this
  have hlB : B.heap[w.heap.size + 1]? = some (.loop (rc .ready)) := by
    have := World.alloc_heap_new (w.alloc (.deferred (some []))) (.loop (rc .ready))
    rw [World.size_alloc, hB] at this
    exact this
  have hdB : B.heap[w.heap.size]? = some (.deferred (some [])) := (hBB.block _ (by omega)).trans (World.alloc_heap_new w _)
  have hbB : Below w.heap.size w B := hBD.trans (hBB.mono (by omega))
  have hiB : I [] B := hI _ _ _ none h0 (grown_below hbB none) (fun r e => by cases e)
  have hltB : w.heap.size + 1 < B.heap.size := (Array.getElem?_eq_some_iff.1 hlB).1
  refine ⟨w.heap.size + 1, [{ target := .collected w.heap.size, args := #[] }], B, { target := .fn (.func gf) lb, args := #[.func (.yield (w.heap.size + 1)) #[] #[]] }, B, gf, #[.func (.yield (w.heap.size + 1)) #[] #[]] ++ lb, B, ?_, ?_, fun _ _ => trivial, ?_, fun h => (by cases h), ?_⟩
  · rw [← hB, hrc]; exact run_enterLoop_outer _ _ _ _ _
  · simp only [resolve, hg]; simp [go_sem]
  · simp [invoke, go_sem, eg]
  refine callsIn_wide.2 ((hseq (w.heap.size + 1) (fun pre W => I pre W ∧ W.heap[w.heap.size + 1]? = some (.loop (rc .ready)) ∧ W.heap[w.heap.size]? = some (.deferred (some []))) B hbB ?_ ?_ ⟨hiB, hlB, hdB⟩).mono ?_)
  · rintro pre X Y ⟨hi, hl, hd⟩ hb
    exact ⟨hI _ _ _ none hi (grown_below hb none) (fun r e => by cases e), (hb.block _ (Array.getElem?_eq_some_iff.1 hl).1).trans hl, (hb.block _ (Array.getElem?_eq_some_iff.1 hd).1).trans hd⟩
  · rintro pre x W ⟨hi, hl, hd⟩ hp
    have hy := run_yield (P := P) (args := encs x) hl (by rw [hrc]; exact hps x)
    rw [hrc] at hy
    refine ⟨fn, _, assign, body, hy, roundIn_of_wpIn trivial (wpIn_mono (hround (w.heap.size + 1) pre x W hi hp) ?_)⟩
    intro e a₁ W₁ h1
    cases e with
    | normal =>
      obtain ⟨hk1, hp1, hrest⟩ := h1
      have hl1 := hk1.same _ _ (by omega) hl rfl
      have hd1 := hk1.same _ _ (Nat.le_refl _) hd rfl
      have hlt1 : w.heap.size + 1 < W₁.heap.size := (Array.getElem?_eq_some_iff.1 hl1).1
      refine ⟨_, run_beginRound hl1 (by rw [hrc]), wpIn_mono (hrest _ _ (by omega) hl1 rfl (grownBy_putObj' _ _ _)) ?_⟩
      have hl2 := World.putObj_heap_same (o := .loop { rc .ready with state := .busy }) hlt1
      have hd2 : (W₁.putObj (w.heap.size + 1) (.loop { rc .ready with state := .busy })).heap[w.heap.size]? = some (.deferred (some [])) := (World.putObj_heap_other (by omega)).trans hd1
      intro e2 a₂ W₃ h2
      cases e2 with
      | normal =>
        obtain ⟨hk3, hp3, hi3⟩ := h2
        have hl3 := hk3.same _ _ (by omega) hl2 rfl
        have hd3 := hk3.same _ _ (Nat.le_refl _) hd2 rfl
        have he := run_endRound (P := P) none hl3
        refine ⟨_, _, he, rfl, ⟨?_, ?_, ?_⟩, ?_⟩
        · exact hI _ _ _ _ hi3 (grownBy_putObj' _ _ _) (fun r e => by cases e; exact ⟨by omega, _, hl3, rfl⟩)
        · rw [World.putObj_heap_same (Array.getElem?_eq_some_iff.1 hl3).1, hrc]; rfl
        · exact (World.putObj_heap_other (by omega)).trans hd3
        · exact hKt hp1 (hKt (hKb _ _ _ _ (by omega) hl1 rfl) (hKt hp3 (hKb _ _ _ _ (by omega) hl3 rfl)))
      | ret => exact h2.elim
      | exit id => exact h2.elim
      | goto t => exact h2.elim
      | panic c => exact h2.elim
      | outgrown => exact h2.elim
    | ret => exact h1.elim
    | exit id => exact h1.elim
    | goto t => exact h1.elim
    | panic c => exact h1.elim
    | outgrown => exact h1.elim
  · rintro e W ⟨⟨v, rfl⟩, xs, hS, hi, hl, hd⟩
    have he := run_endLoop (P := P) hl (by rw [hrc]; simp)
    refine ⟨none, _, by rw [he, hrc], ?_⟩
    exact hdone _ xs _ (Nat.le_refl _) hS (hI _ _ _ _ hi (grownBy_putObj' _ _ _) (fun r e => by cases e; exact ⟨by omega, _, hl, rfl⟩)) ((World.putObj_heap_other (by omega)).trans hd)
/-- A function's contract out of its body's walk, where the body holds a range over a function. -/
theorem calls_of_wp_range {f : FuncId} {fn : Func} {c : Code} {args : Array Value} {w : World} {R : Ending → World → Prop} (hf : P.funcs[f]? = some fn) (hb : fn.body = some c)
    (h : c.wp P (bodyPostM Fence.wide 0 P fn R) { tmps := args ++ Array.replicate (fn.ntmps - args.size) undef, defers := [] } w) : Calls P f args w R :=
  callsIn_wide.1 (callsIn_of_wp_marks (n := 0) hf hb trivial (wpIn_wide.2 h) rfl)
end Go.Proofs.YtekdnhhmiabngaaGreat.rng

/- What a round of a loop over the reference run's tasks keeps: everything but the block of the loop's own variable and the row that it holds; the yielded effects. -/
namespace Go.Proofs.YtekdnhhmiabngaaGreat.ref
open Go Go.ChangeShapes Go.WideShapes Go.ChangeAt Go.RowKit Go.Proofs.YtekdnhhmiabngaaGreat.row Go.Proofs.YtekdnhhmiabngaaGreat.val Go.Proofs.YtekdnhhmiabngaaGreat.expr Go.Proofs.YtekdnhhmiabngaaGreat.stm Go.Proofs.YtekdnhhmiabngaaGreat.blk Go.Proofs.YtekdnhhmiabngaaGreat.prg Go.Proofs.YtekdnhhmiabngaaGreat.exe Go.Proofs.YtekdnhhmiabngaaGreat.srow Go.Proofs.YtekdnhhmiabngaaGreat.rng

/-- Nothing below 'B' is written, and of the rest only the block of 'p' and the row that the cell at 'p' holds; that row stays or moves to new memory. -/
def KeptBut (B : Nat) (p : Addr) (W W' : World) : Prop :=
  Below B W W' ∧ ∀ v, W.cell? p = some v → (∃ v', W'.cell? p = some v' ∧ (∀ b, v'.ownBlock = some b → v.ownBlock = some b ∨ W.heap.size ≤ b) ∧ ((∀ b, v.ownBlock = some b → b < W.heap.size) → ∀ b, v'.ownBlock = some b → b < W'.heap.size)) ∧
    ∀ b cs t fr, W.heap[b]? = some (.cells cs t fr) → b ≠ p.block → v.ownBlock ≠ some b → W'.heap[b]? = some (.cells cs t fr)
theorem lt_of_heap {W : World} {b : Nat} {o : Obj} (h : W.heap[b]? = some o) : b < W.heap.size := (Array.getElem?_eq_some_iff.1 h).1
theorem KeptBut.trans {B : Nat} {p : Addr} {X Y Z : World} (h : KeptBut B p X Y) (k : KeptBut B p Y Z) : KeptBut B p X Z := by
  refine ⟨h.1.trans k.1, fun v hv => ?_⟩
  obtain ⟨⟨v', hv', h1, h3⟩, h2⟩ := h.2 v hv
  obtain ⟨⟨v2, hv2, k1, k3⟩, k2⟩ := k.2 v' hv'
  refine ⟨⟨v2, hv2, fun b hb => ?_, fun hl => k3 (h3 hl)⟩, fun b cs t fr hg hp ho => k2 b cs t fr (h2 b cs t fr hg hp ho) hp (fun e => ?_)⟩
  · rcases k1 b hb with e | e
    · exact h1 b e
    · exact .inr (Nat.le_trans h.1.size e)
  · rcases h1 b e with e | e
    · exact ho e
    · have := lt_of_heap hg; omega
theorem KeptBut.of_below {B : Nat} {p : Addr} {W W' : World} (hb : Below W.heap.size W W') (hB : B ≤ W.heap.size) : KeptBut B p W W' :=
  ⟨hb.mono hB, fun v hv => ⟨⟨v, (hb.cell (p := p) (World.block_lt_of_cell? W p hv)).trans hv, fun _ e => .inl e, fun hl b e => Nat.lt_of_lt_of_le (hl b e) hb.size⟩, fun b _ _ _ hg _ _ => (hb.block b (lt_of_heap hg)).trans hg⟩⟩
theorem KeptBut.putObj {B : Nat} {p : Addr} (W : World) (l : Nat) (o o' : Obj) (hB : B ≤ l) (hl : W.heap[l]? = some o) (ho : o.isCells = false) : KeptBut B p W (W.putObj l o') := by
  have hg := grownBy_putObj' W l o'
  refine ⟨(Below.refl B W).grown hg (Nat.le_trans hB (Nat.le_of_lt (lt_of_heap hl))) (fun k e => by cases e; exact hB), fun v hv => ⟨⟨v, cell_kept hv hg (fun r e => by cases e; exact ⟨o, hl, ho⟩), fun _ e => .inl e, fun hl b e => Nat.lt_of_lt_of_le (hl b e) hg.size⟩, fun b cs t fr hb _ _ => ?_⟩⟩
  refine (hg.block b (lt_of_heap hb) (fun e => ?_)).trans hb
  cases e; rw [hb] at hl; cases hl; cases ho
/-- A row of numbers stays where its block stays. -/
theorem row_kept {W W' : World} {a : Option Addr} {n : Nat} {L : List Int} (h : Row W a n L) (hs : W.heap.size ≤ W'.heap.size) (hk : ∀ b off cs t fr, a = some ⟨b, off, none⟩ → W.heap[b]? = some (.cells cs t fr) → W'.heap[b]? = some (.cells cs t fr)) : Row W' a n L :=
  ⟨h.1, fun k hkn => by
    obtain ⟨b, off, x, e, hlt, hx, hc⟩ := h.2 k hkn
    refine ⟨b, off, x, e, Nat.lt_of_lt_of_le hlt hs, hx, ?_⟩
    obtain ⟨o, ho, hcs⟩ := cells_of_cell hc
    cases o with
    | cells cs t fr => exact (World.cell?_of_block ((hk b off cs t fr e ho).trans ho.symm)).trans hc
    | _ => cases hcs⟩
theorem EffMem.below {B : Nat} {a1 : Option Addr} {n1 c1 : Nat} {a2 : Option Addr} {n2 c2 : Nat} {E : Eff} {w w' : World} (h : EffMem B a1 n1 c1 a2 n2 c2 E w) (hb : Below w.heap.size w w') : EffMem B a1 n1 c1 a2 n2 c2 E w' :=
  ⟨h.1.kept (grown_below hb none) (by cases a1 <;> simp [Value.ownBlock]), h.2.1.kept (grown_below hb none) (by cases a2 <;> simp [Value.ownBlock]), h.2.2⟩
theorem EffMem.mono {B C : Nat} {a1 : Option Addr} {n1 c1 : Nat} {a2 : Option Addr} {n2 c2 : Nat} {E : Eff} {w : World} (h : EffMem B a1 n1 c1 a2 n2 c2 E w) (hB : C ≤ B) : EffMem C a1 n1 c1 a2 n2 c2 E w :=
  ⟨h.1.mono hB, h.2.1.mono hB, h.2.2⟩
theorem own_capR {w : World} {B n c : Nat} {a : Option Addr} {t : TypeId} {xs : List Value} (h : w.ownsRow B t 1 (.slice a n c) n xs) : n ≤ c := by
  rcases h.2 with ⟨e, e0⟩ | ⟨g, cap, cur, e, _, _, hnc, _⟩
  · omega
  · cases e; exact hnc
/-- A yielded task: its number and its effect, as values. -/
structure Yl where
  (T : Int) (a1 : Option Addr) (n1 c1 : Nat) (a2 : Option Addr) (n2 c2 : Nat) (E : Eff)
abbrev Yl.vs (x : Yl) : Array Value := #[.int .i64 x.T, effV x.a1 x.n1 x.c1 x.a2 x.n2 x.c2 x.E]
def lastT (i : Int) (pre : List Yl) : Int := match pre.getLast? with | some x => x.E.N | none => i
def lastV (V : List Int) (pre : List Yl) : List Int := match pre.getLast? with | some x => x.E.V | none => V
theorem lastT_nil (i : Int) : lastT i [] = i := rfl
theorem lastV_nil (V : List Int) : lastV V [] = V := rfl
theorem lastT_snoc (i : Int) (pre : List Yl) (x : Yl) : lastT i (pre ++ [x]) = x.E.N := by simp [lastT]
theorem lastV_snoc (V : List Int) (pre : List Yl) (x : Yl) : lastV V (pre ++ [x]) = x.E.V := by simp [lastV]
/-- What holds when a task is yielded: it is the next one of the run, and its effect lies in new memory, apart from the row that the cell at 'p' holds. -/
def Yields (B : Nat) (p : Addr) (P : List Tk) (V : List Int) (i : Int) (UU : List (List Int)) (pre : List Yl) (x : Yl) (W : World) : Prop :=
  (∃ u, UU[pre.length]? = some u ∧ x.T = lastT i pre ∧ EffIs P (lastV V pre) u (lastT i pre) true x.E) ∧ EffMem B x.a1 x.n1 x.c1 x.a2 x.n2 x.c2 x.E W ∧
    ∀ b, (Value.slice x.a1 x.n1 x.c1).ownBlock = some b ∨ (Value.slice x.a2 x.n2 x.c2).ownBlock = some b → b ≠ p.block ∧ ∀ v, W.cell? p = some v → v.ownBlock ≠ some b
/-- The run up to the yielded tasks. -/
theorem run_snoc {P : List Tk} {V : List Int} {i : Int} {UU : List (List Int)} {pre : List Yl} {x : Yl} {u : List Int} {R : Rf} (hu : UU[pre.length]? = some u) (hE : EffIs P (lastV V pre) u (lastT i pre) true x.E)
    (hR : RunR P (UU.take pre.length) ⟨V, [], i⟩ R) (hV : R.V = lastV V pre) (hT : R.T = lastT i pre) : RunR P (UU.take (pre ++ [x]).length) ⟨V, [], i⟩ ⟨x.E.V, box R.S x.E.S, x.E.N⟩ := by
  rw [List.length_append, List.length_singleton, List.take_add_one, hu]
  refine hR.snoc ⟨x.E, by rw [hV, hT]; exact hE, rfl⟩
theorem tasks_snoc {P : List Tk} {V : List Int} {i : Int} {UU : List (List Int)} {pre : List Yl} {x : Yl} {u : List Int} {R : Rf} {L : List Int} (hu : UU[pre.length]? = some u) (hE : EffIs P (lastV V pre) u (lastT i pre) true x.E)
    (hR : RunR P (UU.take pre.length) ⟨V, [], i⟩ R) (hV : R.V = lastV V pre) (hT : R.T = lastT i pre) (hL : RunT P (UU.take pre.length) V i L) : RunT P (UU.take (pre ++ [x]).length) V i (L ++ [lastT i pre]) := by
  rw [List.length_append, List.length_singleton, List.take_add_one, hu, ← hT]
  exact hL.snoc hR (by rw [hV, hT]; exact hE)
end Go.Proofs.YtekdnhhmiabngaaGreat.ref

/- append of a slice that the caller owns, nil or not; the head of a row of numbers; the load of a struct behind a test that holds. -/
namespace Go.Proofs.YtekdnhhmiabngaaGreat.aps
open Go Go.ChangeShapes Go.WideShapes Go.ChangeAt Go.RowKit Go.Proofs.YtekdnhhmiabngaaGreat.row

section
variable {P : Program} (w : World)
theorem run_append_src (t ty : TypeId) (base base2 : Nat) (e : TypeId) (i : TypeInfo) (z : Value) (size bytes : Nat) (ht : P.underlying t = some (.slice e)) (hi : P.info? e = some i) (hz : i.zero = some z)
    (hsize : i.size = size) (hby : i.bytes = bytes) (hzs : z.cells.size = size) (hsz : 0 < size)
    (v : Value) (n : Nat) (xs : List Value) (hown : w.ownsRow base e size v n xs) (vx : Value) (m : Nat) (ys : List Value) (hX : w.ownsRow base2 e size vx m ys) (h1 : ∀ u ∈ ys, u.oneCell' = true)
    (h63 : n + m ≤ maxLen) (hbytes : (n + m) * bytes ≤ 140737488355328) (hbase : base ≤ w.heap.size) :
    ∃ v' w', (Builtin.append_ #[t, t] ty #[v, vx]).run P w = .ok v' w' ∧ w'.ownsRow base e size v' (n + m) (xs ++ ys) ∧ w.grownBy w' v.ownBlock ∧ (v'.ownBlock = v.ownBlock ∨ v'.ownBlock = some w.heap.size) := by
  rcases hX.2 with ⟨rfl, rfl⟩ | ⟨g, cap, cur, rfl, _⟩
  · have hy : ys = [] := List.eq_nil_of_length_eq_zero (by have := hX.1; simpa using this)
    subst hy
    exact ⟨v, w, run_append_owned_none (P := P) (w := w) base t ty e i size ht hi v n xs hown, by simpa using hown, ⟨rfl, rfl, rfl, Nat.le_refl _, fun _ _ _ => rfl⟩, .inl rfl⟩
  · obtain ⟨v', w', hr, h2, h3, _, h5⟩ := run_append_own_at (P := P) w base t ty e i z size bytes ht hi hz hsize hby hzs hsz v n xs hown ⟨g, 0, none⟩ m cap ys hX.1 (hX.cells (g := g) rfl) h1 h63 hbytes hbase
    exact ⟨v', w', hr, h2, h3, h5⟩
theorem step_append_src {ops : Array Oper} {o : Oper} {a : Act} {K : Act → World → Prop} {Q : Exit → Act → World → Prop} {E : Prop} (hgd : o.guard = none) (s x : Operand) (t : TypeId)
    (ho : o.op = .call { callee := .builtin .append, args := #[s, x], argTypes := #[t, t] })
    (base base2 : Nat) (e : TypeId) (i : TypeInfo) (z : Value) (size bytes : Nat) (ht : P.underlying t = some (.slice e)) (hi : P.info? e = some i) (hz : i.zero = some z)
    (hsize : i.size = size) (hby : i.bytes = bytes) (hzs : z.cells.size = size) (hsz : 0 < size)
    (v : Value) (n : Nat) (xs : List Value) (hs : a.eval s = v) (hown : w.ownsRow base e size v n xs) (vx : Value) (m : Nat) (ys : List Value) (hx : a.eval x = vx) (hX : w.ownsRow base2 e size vx m ys) (h1 : ∀ u ∈ ys, u.oneCell' = true)
    (h63 : n + m ≤ maxLen) (hbytes : (n + m) * bytes ≤ 140737488355328) (hbase : base ≤ w.heap.size)
    (h : ∀ v' w', w'.ownsRow base e size v' (n + m) (xs ++ ys) → w.grownBy w' v.ownBlock → (v'.ownBlock = v.ownBlock ∨ v'.ownBlock = some w.heap.size) → K (a.put o.dst v') w') :
    if Region.wanted o (yielded ops a.tmps) = true then Oper.wp P o a w K Q else E := by
  have hw : Region.wanted o (yielded ops a.tmps) = true := by simp [Region.wanted, hgd]
  rw [if_pos hw]
  obtain ⟨v', w', hr, h2, h3, h4⟩ := run_append_src (P := P) w t o.type base base2 e i z size bytes ht hi hz hsize hby hzs hsz v n xs hown vx m ys hX h1 h63 hbytes hbase
  unfold Oper.wp execOp
  simp only [ho, resolve, invoke, builtin, Sem.run_bind, Sem.run_pure, Result.andThen_ok, List.map_toArray, List.map_cons, List.map_nil, hs, hx, hr]
  exact h v' w' h2 h3 h4
end
theorem made_ati (w : World) (k B : Nat) (hk : w.heap.size = k) (hB : B ≤ k) (e : TypeId) : (w.alloc (.cells #[] e)).ownsRow B e 1 (.slice (some ⟨k, 0, none⟩) 0 0) 0 [] := by
  subst hk; exact World.ownsRow_made w #[] 0 hB (Nat.zero_le _) rfl
theorem own_sliceA {w : World} {B : Nat} {ty : TypeId} {v : Value} {n : Nat} {xs : List Value} (h : w.ownsRow B ty 1 v n xs) : ∃ ad cap, v = .slice ad n cap ∧ n ≤ cap ∧ (0 < n → ∃ g, ad = some ⟨g, 0, none⟩) := by
  rcases h.2 with ⟨e, e0⟩ | ⟨g, c, cur, e, _, _, hnc, _⟩
  · exact ⟨_, _, by rw [e, e0], by omega, fun h0 => by omega⟩
  · exact ⟨_, _, e, hnc, fun _ => ⟨g, rfl⟩⟩
theorem ivs_one (A : List Int) : ∀ u ∈ ivs A, u.oneCell' = true := by
  intro u hu
  obtain ⟨x, _, rfl⟩ := List.mem_map.1 hu
  rfl
/-- The load of a whole struct behind a test that holds. -/
theorem load_on {P : Program} {ops : Array Oper} {rest : List Oper} {o : Oper} {a : Act} {w : World} {Q : Exit → Act → World → Prop} (hw : Region.wanted o (yielded ops a.tmps) = true) (ty : TypeId) (x : Operand) (ho : o.op = .load ty x)
    (g : Nat) (hx : a.eval x = .pointer (some ⟨g, 0, none⟩)) (t : TypeId) (cs : Array Value) (fr : Nat × Nat) (d : TypeDesc) (hg : w.heap[g]? = some (.cells cs t fr))
    (hu : P.underlying ty = some d) (hd : (match d with | .struct _ | .array _ _ => true | _ => false) = true) (hi : (P.info? ty).map (·.size) = some cs.size)
    (h : wpList P ops Q rest (a.put o.dst (.agg cs)) w) : wpList P ops Q (o :: rest) a w :=
  wpList_step fun K hK => by
    rw [if_pos hw]
    exact wp_load_row ty x ho g hx t cs fr d hg hu hd hi (hK _ _ h)
theorem elemI : Tryz.prog.underlying 28 = some (.slice (Tryz.prog.elem 28)) := by kernel_rfl
theorem sizeI (w : World) : (sizeOf (Tryz.prog.elem 28)).run Tryz.prog w = .ok 1 w := by kernel_rfl
theorem cut_hI (g n cap q : Nat) (Q : Int) (hQ : Q = q) (hc : q ≤ cap) (w : World) : (Instr.sliceAt 28 (.slice (some ⟨g, 0, none⟩) n cap) none (some (.int .i64 Q)) none).run Tryz.prog w = .ok (.slice (some ⟨g, 0, none⟩) q cap) w := by
  subst hQ
  rw [run_sliceAt_slice w _ _ _ _ _ elemI, Go.run_slice_h w _ _ _ _ elemI _ _ (by omega) (by omega), sizeI]
  simp only [Result.andThen, sliced]
  rw [Nat.sub_zero, show ((q : Int)).toNat = q by omega, Nat.zero_mul, Option.map_some, Addr.add_mid, Nat.add_zero, ite_self, Nat.sub_zero]
theorem row_head {w : World} {g n k : Nat} {L : List Int} (h : Row w (some ⟨g, 0, none⟩) n L) (hk : k ≤ n) : Row w (some ⟨g, 0, none⟩) k (L.take k) := by
  refine ⟨by rw [List.length_take, h.1]; omega, fun j hj => ?_⟩
  obtain ⟨q, off, x, e, h1, h2, h3⟩ := h.2 j (by omega)
  exact ⟨q, off, x, e, h1, by rw [List.getElem?_take_of_lt hj]; exact h2, h3⟩
end Go.Proofs.YtekdnhhmiabngaaGreat.aps

/- Chapter 13 of the program: whether the arguments of a reference run are valid (canRun); the outbox (addToBox); nothing else that was there is written. -/
namespace Go.Proofs.YtekdnhhmiabngaaGreat.ref
open Go Go.ChangeShapes Go.WideShapes Go.ChangeAt Go.RowKit Go.Proofs.YtekdnhhmiabngaaGreat.row Go.Proofs.YtekdnhhmiabngaaGreat.val Go.Proofs.YtekdnhhmiabngaaGreat.expr Go.Proofs.YtekdnhhmiabngaaGreat.stm Go.Proofs.YtekdnhhmiabngaaGreat.blk Go.Proofs.YtekdnhhmiabngaaGreat.prg Go.Proofs.YtekdnhhmiabngaaGreat.exe Go.Proofs.YtekdnhhmiabngaaGreat.srow
theorem can_sound {P : List Tk} {V : List Int} {i : Int} : CanRun P V i ↔ Sound P V i := Iff.rfl
set_option maxHeartbeats 4000000 in
set_option maxRecDepth 100000 in
theorem impl_canrun (a : Option Addr) (n cap : Nat) (P : List Tk) (hz : Sizes P) (hcap : n ≤ cap) (w : World) (h : TkRow w a n P) (ad : Option Addr) (nv cv : Nat) (V : List Int) (hnv : (nv : Int) ≤ 1048576) (hV : Row w ad nv V) (au : Option Addr) (nu cu : Nat) (UU : List (List Int)) (hsz : SSizes UU) (hU : SRow w au nu UU)
    (i : Int) (r : Bool) (hr : r = true ↔ RefOk P V UU i) :
    Calls Tryz.prog 82 #[.agg #[.slice a n cap], .int .i64 i, .slice ad nv cv, .slice au nu cu] w (BelB w r) := by
  obtain ⟨W, hW⟩ : ∃ W, w.alloc (.cells #[.slice a n cap] 26) = W := ⟨_, rfl⟩
  have hBW : Below w.heap.size w W := by rw [← hW]; exact below_new w _
  have hpx : Box w.heap.size #[.slice a n cap] 26 W := by rw [← hW]; exact Box.new w _ _
  have hWl : w.heap.size < W.heap.size := hpx.lt
  have c0 : W.cell? ⟨w.heap.size, 0, none⟩ = some (.slice a n cap) := hpx.cell 0
  have HW := Lib.hid hW
  have HZ := Lib.hid (And.intro hz hsz)
  have H0 := Lib.hid (And.intro hBW (And.intro (h.below hBW) (And.intro (hV.below hBW) (hU.below hBW))))
  have hul := hU.1
  have hnu : (nu : Int) ≤ 1048576 := by have := hsz.1; omega
  have HR := Lib.hid hr
  clear hpx hBW h hV hU hz hsz hW hr
  obtain ⟨rc, hrc⟩ := can_dec P V i
  have HRC := Lib.hid hrc
  cases rc
  · obtain rfl : r = false := by
      rw [← Bool.not_eq_true]; intro e
      have := hrc.2 (HR.out.1 e).1; cases this
    clear hrc
    go_enter Tryz.func82, Tryz.ntmps82
    go_wp2_with (go_at_call 57; rw [HW.out]; (with_reducible refine (impl_can a n cap P HZ.out.1 hcap _ H0.out.2.1 ad nv cv V hnv H0.out.2.2.1 i false HRC.out).mono ?_); rintro e w2 ⟨rfl, hb2⟩; refine Hid.out ?_)
    have HB2 := Lib.hid (H0.out.1.trans (hb2.mono (Nat.le_of_lt hWl)))
    clear hb2 c0
    refine Lib.hid ?_
    go_wp2
    go_ret
    exact ⟨rfl, HB2.out⟩
  · have HCAN := Lib.hid (hrc.1 rfl)
    clear hrc
    by_cases h100 : (100 : Int) < nu
    · obtain rfl : r = false := by
        rw [← Bool.not_eq_true]; intro e
        have := (HR.out.1 e).2.1; omega
      go_enter Tryz.func82, Tryz.ntmps82
      go_wp2_with (go_at_call 57; rw [HW.out]; (with_reducible refine (impl_can a n cap P HZ.out.1 hcap _ H0.out.2.1 ad nv cv V hnv H0.out.2.2.1 i true HRC.out).mono ?_); rintro e w2 ⟨rfl, hb2⟩; refine Hid.out ?_)
      have HB2 := Lib.hid (H0.out.1.trans (hb2.mono (Nat.le_of_lt hWl)))
      clear hb2 c0
      refine Lib.hid ?_
      go_wp2
      go_ret
      exact ⟨rfl, HB2.out⟩
    · have HAL := Lib.hid (show r = true ↔ ∀ u ∈ UU, allV u = true from ⟨fun e => (HR.out.1 e).2.2, fun h => HR.out.2 ⟨HCAN.out, by omega, h⟩⟩)
      go_enter Tryz.func82, Tryz.ntmps82
      go_wp2_with (go_at_call 57; rw [HW.out]; (with_reducible refine (impl_can a n cap P HZ.out.1 hcap _ H0.out.2.1 ad nv cv V hnv H0.out.2.2.1 i true HRC.out).mono ?_); rintro e w2 ⟨rfl, hb2⟩; refine Hid.out ?_)
      have HBW := Lib.hid (H0.out.1.trans (hb2.mono (Nat.le_of_lt hWl)))
      have HUU := Lib.hid (H0.out.2.2.2.below hb2)
      clear hb2 c0
      refine Lib.hid ?_
      go_wp2
      go_loopw [23] (fun i wr => ∃ k : Nat, k ≤ nu ∧ i = .int .i64 k ∧ Hid (∀ u ∈ UU.take k, allV u = true) ∧ wr = w2) (fun i _ => nu - (intOf i).toNat)
      case atStart => exact ⟨0, Nat.zero_le _, rfl, by simp [Hid], rfl⟩
      case round =>
        obtain ⟨k, hk, rfl, hA, rfl⟩ := hrel
        by_cases hlt : k < nu
        · have hI : (k : Int) < nu := by omega
          obtain ⟨b, off, L, ab, nb, cb, rfl, hlb, hL, hc, hle, hrow⟩ := HUU.out.2 k hlt
          have hnb : (nb : Int) ≤ 1048576 := by have := HZ.out.2.2 L (mem_atS hL); rw [hrow.1] at this; omega
          have HLL := Lib.hid (And.intro hL hrow)
          clear hL hrow hle
          cases hv9 : allV L
          · obtain rfl : r = false := by
              rw [← Bool.not_eq_true]; intro e
              have := HAL.out.1 e L (mem_atS HLL.out.1); rw [hv9] at this; cases this
            have HV9 := Lib.hid (show L.all isVal = false from hv9)
            clear hv9
            go_wp2_with (go_at_call 58; (with_reducible refine (impl_are _ ab nb cb L hnb HLL.out.2 false HV9.out).mono ?_); rintro e w3 ⟨rfl, rfl⟩)
            go_ret
            exact ⟨rfl, HBW.out⟩
          · have HV9 := Lib.hid (show L.all isVal = true from hv9)
            have hA2 := Lib.hid (show ∀ u ∈ UU.take (k + 1), allV u = true from fun u hu => by
              rw [List.take_add_one, HLL.out.1] at hu
              rcases List.mem_append.1 hu with h | h
              · exact hA.out u h
              · simp at h; rw [h]; exact HV9.out)
            clear hv9
            go_wp2_with (go_at_call 58; (with_reducible refine (impl_are _ ab nb cb L hnb HLL.out.2 true HV9.out).mono ?_); rintro e w3 ⟨rfl, rfl⟩)
            go_roundw
            case rel => exact ⟨k + 1, by omega, by go_num, hA2, trivial⟩
            case measure => simp [intOf]; omega
        · obtain rfl : k = nu := by omega
          have hI : ¬ (k : Int) < k := by omega
          obtain rfl : r = true := HAL.out.2 (fun u hu => hA.out u (by rw [List.take_of_length_le (by omega)]; exact hu))
          go_wp2
          go_ret
          exact ⟨rfl, HBW.out⟩
/-- The outbox with further values, as many as there is room for: the row has grown in place or moved. -/
def AddOut (B : Nat) (w : World) (v : Value) (S : List Int) (e : Ending) (w' : World) : Prop :=
  ∃ a' n' c', e = .returned (.slice a' n' c') ∧ w'.ownsRow B 3 1 (.slice a' n' c') n' (ivs S) ∧ w.grownBy w' v.ownBlock ∧ ((Value.slice a' n' c').ownBlock = v.ownBlock ∨ (Value.slice a' n' c').ownBlock = some w.heap.size)
theorem list_append_src {P : Program} (w : World) {ops : Array Oper} {rest : List Oper} {o : Oper} {a : Act} {Q : Exit → Act → World → Prop} (hgd : o.guard = none) (s x : Operand) (t : TypeId)
    (ho : o.op = .call { callee := .builtin .append, args := #[s, x], argTypes := #[t, t] })
    (base base2 : Nat) (e : TypeId) (i : TypeInfo) (z : Value) (size bytes : Nat) (ht : P.underlying t = some (.slice e)) (hi : P.info? e = some i) (hz : i.zero = some z)
    (hsize : i.size = size) (hby : i.bytes = bytes) (hzs : z.cells.size = size) (hsz : 0 < size)
    (v : Value) (n : Nat) (xs : List Value) (hs : a.eval s = v) (hown : w.ownsRow base e size v n xs) (vx : Value) (m : Nat) (ys : List Value) (hx : a.eval x = vx) (hX : w.ownsRow base2 e size vx m ys) (h1 : ∀ u ∈ ys, u.oneCell' = true)
    (h63 : n + m ≤ maxLen) (hbytes : (n + m) * bytes ≤ 140737488355328) (hbase : base ≤ w.heap.size)
    (h : ∀ v' w', w'.ownsRow base e size v' (n + m) (xs ++ ys) → w.grownBy w' v.ownBlock → (v'.ownBlock = v.ownBlock ∨ v'.ownBlock = some w.heap.size) → wpList P ops Q rest (a.put o.dst v') w') :
    wpList P ops Q (o :: rest) a w :=
  wpList_step fun _ hK => aps.step_append_src w hgd s x t ho base base2 e i z size bytes ht hi hz hsize hby hzs hsz v n xs hs hown vx m ys hx hX h1 h63 hbytes hbase (fun v' w' h2 h3 h4 => hK _ _ (h v' w' h2 h3 h4))
/-- The head of a row that is owned. -/
theorem own_head {w : World} {B g m cm q : Nat} {M : List Int} (h : w.ownsRow B 3 1 (.slice (some ⟨g, 0, none⟩) m cm) m (ivs M)) (hq : q ≤ m) : w.ownsRow B 3 1 (.slice (some ⟨g, 0, none⟩) q cm) q (ivs (M.take q)) := by
  have hl := own_len h
  rcases h.2 with ⟨e, _⟩ | ⟨g', cap, cur, e, hB, hg, hnc, hcm, hcs, htk⟩
  · cases e
  · cases e
    refine ⟨by simp [ivs, List.length_take]; omega, .inr ⟨g, cm, cur, rfl, hB, hg, by omega, hcm, hcs, ?_⟩⟩
    have : ivs (M.take q) = (ivs M).take q := by simp [ivs, List.map_take]
    rw [this, ← htk, List.take_take, Nat.mul_one, Nat.mul_one, Nat.min_eq_left hq]
theorem cut_h0 (w : World) : (Instr.sliceAt 28 (.slice none 0 0) none (some (.int .i64 0)) none).run Tryz.prog w = .ok (.slice none 0 0) w := by kernel_rfl
theorem box_min (S M : List Int) (hS : S.length ≤ 24) : S ++ M.take (min (24 - S.length) M.length) = box S M := by
  unfold box
  rw [List.take_append, List.take_of_length_le hS]
  congr 1
  by_cases h : 24 - S.length ≤ M.length
  · rw [Nat.min_eq_left h]
  · rw [Nat.min_eq_right (by omega), List.take_of_length_le (Nat.le_refl _), List.take_of_length_le (by omega)]
theorem ivs_append (A B : List Int) : ivs A ++ ivs B = ivs (A ++ B) := by simp [ivs]
set_option maxHeartbeats 4000000 in
set_option maxRecDepth 100000 in
theorem impl_addtobox (B B2 : Nat) (w : World) (hB : B ≤ w.heap.size) (a : Option Addr) (n c : Nat) (S : List Int) (hS : w.ownsRow B 3 1 (.slice a n c) n (ivs S)) (hS24 : S.length ≤ 24) (am : Option Addr) (m cm : Nat) (M : List Int) (hm : (m : Int) ≤ 1048576) (hM : w.ownsRow B2 3 1 (.slice am m cm) m (ivs M)) :
    Calls Tryz.prog 85 #[.slice a n c, .slice am m cm] w (AddOut B w (.slice a n c) (box S M)) := by
  obtain ⟨i0, hi, hz0, hz1, hz2⟩ := info_parts row.infoInt
  have hSl := own_len hS
  have hMl := own_len hM
  obtain ⟨q, hq⟩ : ∃ q : Nat, min (24 - n) m = q := ⟨_, rfl⟩
  have hqm : q ≤ m := by omega
  have hqn : n + q ≤ 24 := by omega
  have h24 : IntKind.i64.wrap (24 - (n : Int)) = ((24 - n : Nat) : Int) := by rw [IntWalk.i64_in _ (by omega)]; omega
  have hmin : (if ((24 - n : Nat) : Int) < (m : Int) then ((24 - n : Nat) : Int) else (m : Int)) = (q : Int) := by split <;> omega
  have HBX := Lib.hid (box_min S M hS24)
  have HS := Lib.hid hS
  obtain ⟨am2, hcut, hM2⟩ : ∃ am2 : Option Addr × Nat, (∀ w, (Instr.sliceAt 28 (.slice am m cm) none (some (.int .i64 (q : Int))) none).run Tryz.prog w = .ok (.slice am2.1 q am2.2) w) ∧ w.ownsRow B2 3 1 (.slice am2.1 q am2.2) q (ivs (M.take q)) := by
    rcases hM.2 with ⟨e, e0⟩ | ⟨g, cap, cur, e, hB9, hg9, hnc, _⟩
    · cases e
      obtain rfl : q = 0 := by omega
      exact ⟨(none, 0), cut_h0, by rw [List.take_zero]; exact World.ownsRow_nil _ _ _ _⟩
    · cases e
      exact ⟨(some ⟨g, 0, none⟩, cm), aps.cut_hI g m cm q q rfl (by omega), own_head hM hqm⟩
  obtain ⟨am2, cm2⟩ := am2
  have HM2 := Lib.hid hM2
  have hcut' : ∀ w, (Instr.sliceAt 28 (.slice am m cm) none (some (.int .i64 (q : Int))) none).run Tryz.prog w = .ok (.slice am2 q cm2) w := hcut
  clear hcut hM2 hS hM
  by_cases hlt : m < 24 - n
  · obtain rfl : q = m := by omega
    clear hmin hq
    rw [show min (24 - S.length) M.length = q by omega] at HBX
    go_enter Tryz.func85, Tryz.ntmps85
    go_wp2_with (at_builtin; refine list_append_src _ rfl _ _ 28 rfl B B2 3 i0 (.int .i64 0) 1 8 Tryz.underlying28 hi hz0 hz1 hz2 rfl (by decide) _ _ _ rfl HS.out _ _ _ rfl HM2.out (aps.ivs_one _) (by unfold maxLen; omega) (by omega) hB ?_; intro v4 w4 hown4 hgrow4 hat4; refine Hid.out ?_)
    rw [ivs_append, HBX.out] at hown4
    obtain ⟨a4, c4, rfl, _⟩ := aps.own_sliceA hown4
    have H4 := Lib.hid (And.intro hown4 (And.intro hgrow4 hat4))
    clear hown4 hgrow4 hat4
    refine Lib.hid ?_
    go_wp2
    go_ret
    exact ⟨a4, _, c4, rfl, H4.out.1, H4.out.2.1, H4.out.2.2⟩
  · obtain rfl : q = 24 - n := by omega
    clear hmin hq
    rw [show min (24 - S.length) M.length = 24 - n by omega] at HBX
    go_enter Tryz.func85, Tryz.ntmps85
    go_wp2_with (at_builtin; refine list_append_src _ rfl _ _ 28 rfl B B2 3 i0 (.int .i64 0) 1 8 Tryz.underlying28 hi hz0 hz1 hz2 rfl (by decide) _ _ _ rfl HS.out _ _ _ rfl HM2.out (aps.ivs_one _) (by unfold maxLen; omega) (by omega) hB ?_; intro v4 w4 hown4 hgrow4 hat4; refine Hid.out ?_)
    rw [ivs_append, HBX.out] at hown4
    obtain ⟨a4, c4, rfl, _⟩ := aps.own_sliceA hown4
    have H4 := Lib.hid (And.intro hown4 (And.intro hgrow4 hat4))
    clear hown4 hgrow4 hat4
    refine Lib.hid ?_
    go_wp2
    go_ret
    exact ⟨a4, _, c4, rfl, H4.out.1, H4.out.2.1, H4.out.2.2⟩
end Go.Proofs.YtekdnhhmiabngaaGreat.ref
