/- Several texts in one: RngB StmI. -/
import Derived.Test.YtlinpefeojpjnaaGreatGHub24
import Derived.Test.YtlinpefeojpjnaaGreatGHub17
import Derived.Test.YtlinpefeojpjnaaGreatGHub20
import Derived.Test.YtlinpefeojpjnaaGreatGHub2
import Derived.Deep.RegionWith

/- What a round of a loop over the reference run's tasks keeps: everything but the block of the loop's own variable and the row that it holds; the yielded effects. -/
namespace Go.Proofs.YtlinpefeojpjnaaGreat.ref
open Go Go.ChangeShapes Go.WideShapes Go.ChangeAt Go.RowKit Go.Proofs.YtlinpefeojpjnaaGreat.row Go.Proofs.YtlinpefeojpjnaaGreat.val Go.Proofs.YtlinpefeojpjnaaGreat.expr Go.Proofs.YtlinpefeojpjnaaGreat.stm Go.Proofs.YtlinpefeojpjnaaGreat.blk Go.Proofs.YtlinpefeojpjnaaGreat.prg Go.Proofs.YtlinpefeojpjnaaGreat.exe Go.Proofs.YtlinpefeojpjnaaGreat.srow Go.Proofs.YtlinpefeojpjnaaGreat.rng

/-- Nothing below 'B' is written, and of the rest only the block of 'p' and the row that the cell at 'p' holds; that row stays or moves to new memory. -/
def KeptBut (B : Nat) (p : Addr) (W W' : World) : Prop :=
  Below B W W' ∧ ∀ v, W.cell? p = some v → (∃ v', W'.cell? p = some v' ∧ (∀ b, v'.ownBlock = some b → v.ownBlock = some b ∨ W.heap.size ≤ b) ∧ ((∀ b, v.ownBlock = some b → b < W.heap.size) → ∀ b, v'.ownBlock = some b → b < W'.heap.size)) ∧
    ∀ b cs t fr, W.heap[b]? = some (.cells cs t fr) → b ≠ p.block → v.ownBlock ≠ some b → W'.heap[b]? = some (.cells cs t fr)
theorem lt_of_heap {W : World} {b : Nat} {o : Obj} (h : W.heap[b]? = some o) : b < W.heap.size := (Array.getElem?_eq_some_iff.1 h).1
theorem KeptBut.trans {B : Nat} {p : Addr} {X Y Z : World} (h : KeptBut B p X Y) (k : KeptBut B p Y Z) : KeptBut B p X Z := by
  refine ⟨h.1.trans k.1, fun v hv => ?_⟩
  obtain ⟨⟨v', hv', h1, h3⟩, h2⟩ := h.2 v hv
  obtain ⟨⟨v2, hv2, k1, k3⟩, k2⟩ := k.2 v' hv'
  refine ⟨⟨v2, hv2, fun b hb => ?_, fun hl => k3 (h3 hl)⟩, fun b cs t fr hg hp ho => k2 b cs t fr (h2 b cs t fr hg hp ho) hp (fun e => ?_)⟩
  · rcases k1 b hb with e | e
    · exact h1 b e
    · exact .inr (Nat.le_trans h.1.size e)
  · rcases h1 b e with e | e
    · exact ho e
    · have := lt_of_heap hg; omega
theorem KeptBut.of_below {B : Nat} {p : Addr} {W W' : World} (hb : Below W.heap.size W W') (hB : B ≤ W.heap.size) : KeptBut B p W W' :=
  ⟨hb.mono hB, fun v hv => ⟨⟨v, (hb.cell (p := p) (World.block_lt_of_cell? W p hv)).trans hv, fun _ e => .inl e, fun hl b e => Nat.lt_of_lt_of_le (hl b e) hb.size⟩, fun b _ _ _ hg _ _ => (hb.block b (lt_of_heap hg)).trans hg⟩⟩
theorem KeptBut.putObj {B : Nat} {p : Addr} (W : World) (l : Nat) (o o' : Obj) (hB : B ≤ l) (hl : W.heap[l]? = some o) (ho : o.isCells = false) : KeptBut B p W (W.putObj l o') := by
  have hg := grownBy_putObj' W l o'
  refine ⟨(Below.refl B W).grown hg (Nat.le_trans hB (Nat.le_of_lt (lt_of_heap hl))) (fun k e => by cases e; exact hB), fun v hv => ⟨⟨v, cell_kept hv hg (fun r e => by cases e; exact ⟨o, hl, ho⟩), fun _ e => .inl e, fun hl b e => Nat.lt_of_lt_of_le (hl b e) hg.size⟩, fun b cs t fr hb _ _ => ?_⟩⟩
  refine (hg.block b (lt_of_heap hb) (fun e => ?_)).trans hb
  cases e; rw [hb] at hl; cases hl; cases ho
/-- A row of numbers stays where its block stays. -/
theorem row_kept {W W' : World} {a : Option Addr} {n : Nat} {L : List Int} (h : Row W a n L) (hs : W.heap.size ≤ W'.heap.size) (hk : ∀ b off cs t fr, a = some ⟨b, off, none⟩ → W.heap[b]? = some (.cells cs t fr) → W'.heap[b]? = some (.cells cs t fr)) : Row W' a n L :=
  ⟨h.1, fun k hkn => by
    obtain ⟨b, off, x, e, hlt, hx, hc⟩ := h.2 k hkn
    refine ⟨b, off, x, e, Nat.lt_of_lt_of_le hlt hs, hx, ?_⟩
    obtain ⟨o, ho, hcs⟩ := cells_of_cell hc
    cases o with
    | cells cs t fr => exact (World.cell?_of_block ((hk b off cs t fr e ho).trans ho.symm)).trans hc
    | _ => cases hcs⟩
theorem EffMem.below {B : Nat} {a1 : Option Addr} {n1 c1 : Nat} {a2 : Option Addr} {n2 c2 : Nat} {E : Eff} {w w' : World} (h : EffMem B a1 n1 c1 a2 n2 c2 E w) (hb : Below w.heap.size w w') : EffMem B a1 n1 c1 a2 n2 c2 E w' :=
  ⟨h.1.kept (grown_below hb none) (by cases a1 <;> simp [Value.ownBlock]), h.2.1.kept (grown_below hb none) (by cases a2 <;> simp [Value.ownBlock]), h.2.2⟩
theorem EffMem.mono {B C : Nat} {a1 : Option Addr} {n1 c1 : Nat} {a2 : Option Addr} {n2 c2 : Nat} {E : Eff} {w : World} (h : EffMem B a1 n1 c1 a2 n2 c2 E w) (hB : C ≤ B) : EffMem C a1 n1 c1 a2 n2 c2 E w :=
  ⟨h.1.mono hB, h.2.1.mono hB, h.2.2⟩
theorem own_capR {w : World} {B n c : Nat} {a : Option Addr} {t : TypeId} {xs : List Value} (h : w.ownsRow B t 1 (.slice a n c) n xs) : n ≤ c := by
  rcases h.2 with ⟨e, e0⟩ | ⟨g, cap, cur, e, _, _, hnc, _⟩
  · omega
  · cases e; exact hnc
/-- A yielded task: its number and its effect, as values. -/
structure Yl where
  (T : Int) (a1 : Option Addr) (n1 c1 : Nat) (a2 : Option Addr) (n2 c2 : Nat) (E : Eff)
abbrev Yl.vs (x : Yl) : Array Value := #[.int .i64 x.T, effV x.a1 x.n1 x.c1 x.a2 x.n2 x.c2 x.E]
def lastT (i : Int) (pre : List Yl) : Int := match pre.getLast? with | some x => x.E.N | none => i
def lastV (V : List Int) (pre : List Yl) : List Int := match pre.getLast? with | some x => x.E.V | none => V
theorem lastT_nil (i : Int) : lastT i [] = i := rfl
theorem lastV_nil (V : List Int) : lastV V [] = V := rfl
theorem lastT_snoc (i : Int) (pre : List Yl) (x : Yl) : lastT i (pre ++ [x]) = x.E.N := by simp [lastT]
theorem lastV_snoc (V : List Int) (pre : List Yl) (x : Yl) : lastV V (pre ++ [x]) = x.E.V := by simp [lastV]
/-- What holds when a task is yielded: it is the next one of the run, and its effect lies in new memory, apart from the row that the cell at 'p' holds. -/
def Yields (B : Nat) (p : Addr) (P : List Tk) (V : List Int) (i : Int) (UU : List (List Int)) (pre : List Yl) (x : Yl) (W : World) : Prop :=
  (∃ u, UU[pre.length]? = some u ∧ x.T = lastT i pre ∧ EffIs P (lastV V pre) u (lastT i pre) true x.E) ∧ EffMem B x.a1 x.n1 x.c1 x.a2 x.n2 x.c2 x.E W ∧
    ∀ b, (Value.slice x.a1 x.n1 x.c1).ownBlock = some b ∨ (Value.slice x.a2 x.n2 x.c2).ownBlock = some b → b ≠ p.block ∧ ∀ v, W.cell? p = some v → v.ownBlock ≠ some b
/-- The run up to the yielded tasks. -/
theorem run_snoc {P : List Tk} {V : List Int} {i : Int} {UU : List (List Int)} {pre : List Yl} {x : Yl} {u : List Int} {R : Rf} (hu : UU[pre.length]? = some u) (hE : EffIs P (lastV V pre) u (lastT i pre) true x.E)
    (hR : RunR P (UU.take pre.length) ⟨V, [], i⟩ R) (hV : R.V = lastV V pre) (hT : R.T = lastT i pre) : RunR P (UU.take (pre ++ [x]).length) ⟨V, [], i⟩ ⟨x.E.V, box R.S x.E.S, x.E.N⟩ := by
  rw [List.length_append, List.length_singleton, List.take_add_one, hu]
  refine hR.snoc ⟨x.E, by rw [hV, hT]; exact hE, rfl⟩
theorem tasks_snoc {P : List Tk} {V : List Int} {i : Int} {UU : List (List Int)} {pre : List Yl} {x : Yl} {u : List Int} {R : Rf} {L : List Int} (hu : UU[pre.length]? = some u) (hE : EffIs P (lastV V pre) u (lastT i pre) true x.E)
    (hR : RunR P (UU.take pre.length) ⟨V, [], i⟩ R) (hV : R.V = lastV V pre) (hT : R.T = lastT i pre) (hL : RunT P (UU.take pre.length) V i L) : RunT P (UU.take (pre ++ [x]).length) V i (L ++ [lastT i pre]) := by
  rw [List.length_append, List.length_singleton, List.take_add_one, hu, ← hT]
  exact hL.snoc hR (by rw [hV, hT]; exact hE)
end Go.Proofs.YtlinpefeojpjnaaGreat.ref

/- Chapter 4's StmtOk of the program, and the functions that it is made of: the statement as a value of its own type, its fields' check, and the way back; nothing that was there is written. -/
namespace Go.Proofs.YtlinpefeojpjnaaGreat.stm
open Go.ChangeShapes Go.WideShapes Go.ChangeAt Go.RowKit Go.Proofs.YtlinpefeojpjnaaGreat.row Go.Proofs.YtlinpefeojpjnaaGreat.val Go.Proofs.YtlinpefeojpjnaaGreat.expr

/-- A statement of the kind 1 as a value of its own type. -/
abbrev if1 (v o a b : Int) : Value := .iface 134 (.agg #[.int .i64 v, .int .i64 o, .int .i64 a, .int .i64 b])
/-- A statement of the kind 2 as a value of its own type. -/
abbrev if2 (v n : Int) : Value := .iface 136 (.agg #[.int .i64 v, .int .i64 n])
/-- A statement of the kind 3 as a value of its own type. -/
abbrev if3 (o a b : Int) : Value := .iface 138 (.agg #[.int .i64 o, .int .i64 a, .int .i64 b])
/-- A statement of the kind 4 as a value of its own type. -/
abbrev if4 (o a b : Int) : Value := .iface 140 (.agg #[.int .i64 o, .int .i64 a, .int .i64 b])
/-- A statement of the kind 5 as a value of its own type. -/
abbrev if5 (n : Int) : Value := .iface 142 (.agg #[.int .i64 n])
/-- A statement of the kind 6 as a value of its own type. -/
abbrev if6 : Value := .iface 144 (.agg #[])
set_option maxHeartbeats 400000 in
theorem stmt_m1 (v o a b : Int) (w : World) : Calls Tryz.prog 135 #[.agg #[.int .i64 v, .int .i64 o, .int .i64 a, .int .i64 b]] w (BelS w ⟨1, v, 0, o, a, b⟩) := by
  go_enter Tryz.func135, Tryz.ntmps135
  go_wp2
  refine bodyPost_ret (v := stV ⟨1, v, 0, o, a, b⟩) (by simp [results, Tryz.results135, go_sem]) rfl ⟨rfl, ?_⟩
  all_goals repeat (first | exact Below.refl _ _ | refine Below.alloc ?_ (by simp; try omega) _ | refine Below.setCell ?_ (by simp) _)
set_option maxHeartbeats 400000 in
theorem stmt_m2 (v n : Int) (w : World) : Calls Tryz.prog 136 #[.agg #[.int .i64 v, .int .i64 n]] w (BelS w ⟨2, v, n, 0, 0, 0⟩) := by
  go_enter Tryz.func136, Tryz.ntmps136
  go_wp2
  refine bodyPost_ret (v := stV ⟨2, v, n, 0, 0, 0⟩) (by simp [results, Tryz.results136, go_sem]) rfl ⟨rfl, ?_⟩
  all_goals repeat (first | exact Below.refl _ _ | refine Below.alloc ?_ (by simp; try omega) _ | refine Below.setCell ?_ (by simp) _)
set_option maxHeartbeats 400000 in
theorem stmt_m3 (o a b : Int) (w : World) : Calls Tryz.prog 137 #[.agg #[.int .i64 o, .int .i64 a, .int .i64 b]] w (BelS w ⟨3, 0, 0, o, a, b⟩) := by
  go_enter Tryz.func137, Tryz.ntmps137
  go_wp2
  refine bodyPost_ret (v := stV ⟨3, 0, 0, o, a, b⟩) (by simp [results, Tryz.results137, go_sem]) rfl ⟨rfl, ?_⟩
  all_goals repeat (first | exact Below.refl _ _ | refine Below.alloc ?_ (by simp; try omega) _ | refine Below.setCell ?_ (by simp) _)
set_option maxHeartbeats 400000 in
theorem stmt_m4 (o a b : Int) (w : World) : Calls Tryz.prog 138 #[.agg #[.int .i64 o, .int .i64 a, .int .i64 b]] w (BelS w ⟨4, 0, 0, o, a, b⟩) := by
  go_enter Tryz.func138, Tryz.ntmps138
  go_wp2
  refine bodyPost_ret (v := stV ⟨4, 0, 0, o, a, b⟩) (by simp [results, Tryz.results138, go_sem]) rfl ⟨rfl, ?_⟩
  all_goals repeat (first | exact Below.refl _ _ | refine Below.alloc ?_ (by simp; try omega) _ | refine Below.setCell ?_ (by simp) _)
set_option maxHeartbeats 400000 in
theorem stmt_m5 (n : Int) (w : World) : Calls Tryz.prog 139 #[.agg #[.int .i64 n]] w (BelS w ⟨5, 0, n, 0, 0, 0⟩) := by
  go_enter Tryz.func139, Tryz.ntmps139
  go_wp2
  refine bodyPost_ret (v := stV ⟨5, 0, n, 0, 0, 0⟩) (by simp [results, Tryz.results139, go_sem]) rfl ⟨rfl, ?_⟩
  all_goals repeat (first | exact Below.refl _ _ | refine Below.alloc ?_ (by simp; try omega) _ | refine Below.setCell ?_ (by simp) _)
set_option maxHeartbeats 400000 in
theorem stmt_m6 (w : World) : Calls Tryz.prog 140 #[.agg #[]] w (BelS w ⟨6, 0, 0, 0, 0, 0⟩) := by
  go_enter Tryz.func140, Tryz.ntmps140
  go_wp2
  refine bodyPost_ret (v := stV ⟨6, 0, 0, 0, 0, 0⟩) (by simp [results, Tryz.results140, go_sem]) rfl ⟨rfl, ?_⟩
  all_goals repeat (first | exact Below.refl _ _ | refine Below.alloc ?_ (by simp; try omega) _ | refine Below.setCell ?_ (by simp) _)
/-- The call returns this pair of an interface value and a bool; nothing that was there is written. -/
def BelP (w : World) (v : Value) (b : Bool) (e : Ending) (w' : World) : Prop := e = .returned (.tuple #[v, .bool b]) ∧ Below w.heap.size w w'
set_option maxHeartbeats 400000 in
theorem of1 (v n o a b : Int) (w : World) : Calls Tryz.prog 115 #[stV ⟨1, v, n, o, a, b⟩] w (BelP w (if1 v o a b) true) := by
  go_enter Tryz.func115, Tryz.ntmps115
  go_wp2
  go_ret2
  exact ⟨rfl, (Below.refl _ _).alloc (Nat.le_refl _) _⟩
set_option maxHeartbeats 400000 in
theorem of2 (v n o a b : Int) (w : World) : Calls Tryz.prog 115 #[stV ⟨2, v, n, o, a, b⟩] w (BelP w (if2 v n) true) := by
  go_enter Tryz.func115, Tryz.ntmps115
  go_wp2
  go_ret2
  exact ⟨rfl, (Below.refl _ _).alloc (Nat.le_refl _) _⟩
set_option maxHeartbeats 400000 in
theorem of3 (v n o a b : Int) (w : World) : Calls Tryz.prog 115 #[stV ⟨3, v, n, o, a, b⟩] w (BelP w (if3 o a b) true) := by
  go_enter Tryz.func115, Tryz.ntmps115
  go_wp2
  go_ret2
  exact ⟨rfl, (Below.refl _ _).alloc (Nat.le_refl _) _⟩
set_option maxHeartbeats 400000 in
theorem of4 (v n o a b : Int) (w : World) : Calls Tryz.prog 115 #[stV ⟨4, v, n, o, a, b⟩] w (BelP w (if4 o a b) true) := by
  go_enter Tryz.func115, Tryz.ntmps115
  go_wp2
  go_ret2
  exact ⟨rfl, (Below.refl _ _).alloc (Nat.le_refl _) _⟩
set_option maxHeartbeats 400000 in
theorem of5 (v n o a b : Int) (w : World) : Calls Tryz.prog 115 #[stV ⟨5, v, n, o, a, b⟩] w (BelP w (if5 n) true) := by
  go_enter Tryz.func115, Tryz.ntmps115
  go_wp2
  go_ret2
  exact ⟨rfl, (Below.refl _ _).alloc (Nat.le_refl _) _⟩
set_option maxHeartbeats 400000 in
theorem of6 (v n o a b : Int) (w : World) : Calls Tryz.prog 115 #[stV ⟨6, v, n, o, a, b⟩] w (BelP w (if6 ) true) := by
  go_enter Tryz.func115, Tryz.ntmps115
  go_wp2
  go_ret2
  exact ⟨rfl, (Below.refl _ _).alloc (Nat.le_refl _) _⟩
set_option maxHeartbeats 400000 in
theorem of7 (k v n o a b : Int) (h1 : (k == 1) = false) (h2 : (k == 2) = false) (h3 : (k == 3) = false) (h4 : (k == 4) = false) (h5 : (k == 5) = false) (h6 : (k == 6) = false) (w : World) : Calls Tryz.prog 115 #[stV ⟨k, v, n, o, a, b⟩] w (BelP w .nilIface false) := by
  go_enter Tryz.func115, Tryz.ntmps115
  go_wp2
  go_ret2
  exact ⟨rfl, (Below.refl _ _).alloc (Nat.le_refl _) _⟩

section fields_
theorem as1_yes (v : Value) (w : World) : (Instr.typeAssert (.iface 134 v) 128 134 true).run Tryz.prog w = .ok (.tuple #[v, .bool true]) w := by kernel_rfl
theorem as2_yes (v : Value) (w : World) : (Instr.typeAssert (.iface 136 v) 128 136 true).run Tryz.prog w = .ok (.tuple #[v, .bool true]) w := by kernel_rfl
theorem as2_no1 (v : Value) (w : World) : (Instr.typeAssert (.iface 136 v) 128 134 true).run Tryz.prog w = .ok (.tuple #[.agg #[.int .i64 0, .int .i64 0, .int .i64 0, .int .i64 0], .bool false]) w := by kernel_rfl
theorem as3_yes (v : Value) (w : World) : (Instr.typeAssert (.iface 138 v) 128 138 true).run Tryz.prog w = .ok (.tuple #[v, .bool true]) w := by kernel_rfl
theorem as3_no1 (v : Value) (w : World) : (Instr.typeAssert (.iface 138 v) 128 134 true).run Tryz.prog w = .ok (.tuple #[.agg #[.int .i64 0, .int .i64 0, .int .i64 0, .int .i64 0], .bool false]) w := by kernel_rfl
theorem as3_no2 (v : Value) (w : World) : (Instr.typeAssert (.iface 138 v) 128 136 true).run Tryz.prog w = .ok (.tuple #[.agg #[.int .i64 0, .int .i64 0], .bool false]) w := by kernel_rfl
theorem as4_yes (v : Value) (w : World) : (Instr.typeAssert (.iface 140 v) 128 140 true).run Tryz.prog w = .ok (.tuple #[v, .bool true]) w := by kernel_rfl
theorem as4_no1 (v : Value) (w : World) : (Instr.typeAssert (.iface 140 v) 128 134 true).run Tryz.prog w = .ok (.tuple #[.agg #[.int .i64 0, .int .i64 0, .int .i64 0, .int .i64 0], .bool false]) w := by kernel_rfl
theorem as4_no2 (v : Value) (w : World) : (Instr.typeAssert (.iface 140 v) 128 136 true).run Tryz.prog w = .ok (.tuple #[.agg #[.int .i64 0, .int .i64 0], .bool false]) w := by kernel_rfl
theorem as4_no3 (v : Value) (w : World) : (Instr.typeAssert (.iface 140 v) 128 138 true).run Tryz.prog w = .ok (.tuple #[.agg #[.int .i64 0, .int .i64 0, .int .i64 0], .bool false]) w := by kernel_rfl
theorem as5_yes (v : Value) (w : World) : (Instr.typeAssert (.iface 142 v) 128 142 true).run Tryz.prog w = .ok (.tuple #[v, .bool true]) w := by kernel_rfl
theorem as5_no1 (v : Value) (w : World) : (Instr.typeAssert (.iface 142 v) 128 134 true).run Tryz.prog w = .ok (.tuple #[.agg #[.int .i64 0, .int .i64 0, .int .i64 0, .int .i64 0], .bool false]) w := by kernel_rfl
theorem as5_no2 (v : Value) (w : World) : (Instr.typeAssert (.iface 142 v) 128 136 true).run Tryz.prog w = .ok (.tuple #[.agg #[.int .i64 0, .int .i64 0], .bool false]) w := by kernel_rfl
theorem as5_no3 (v : Value) (w : World) : (Instr.typeAssert (.iface 142 v) 128 138 true).run Tryz.prog w = .ok (.tuple #[.agg #[.int .i64 0, .int .i64 0, .int .i64 0], .bool false]) w := by kernel_rfl
theorem as5_no4 (v : Value) (w : World) : (Instr.typeAssert (.iface 142 v) 128 140 true).run Tryz.prog w = .ok (.tuple #[.agg #[.int .i64 0, .int .i64 0, .int .i64 0], .bool false]) w := by kernel_rfl
theorem as6_yes (v : Value) (w : World) : (Instr.typeAssert (.iface 144 v) 128 144 true).run Tryz.prog w = .ok (.tuple #[v, .bool true]) w := by kernel_rfl
theorem as6_no1 (v : Value) (w : World) : (Instr.typeAssert (.iface 144 v) 128 134 true).run Tryz.prog w = .ok (.tuple #[.agg #[.int .i64 0, .int .i64 0, .int .i64 0, .int .i64 0], .bool false]) w := by kernel_rfl
theorem as6_no2 (v : Value) (w : World) : (Instr.typeAssert (.iface 144 v) 128 136 true).run Tryz.prog w = .ok (.tuple #[.agg #[.int .i64 0, .int .i64 0], .bool false]) w := by kernel_rfl
theorem as6_no3 (v : Value) (w : World) : (Instr.typeAssert (.iface 144 v) 128 138 true).run Tryz.prog w = .ok (.tuple #[.agg #[.int .i64 0, .int .i64 0, .int .i64 0], .bool false]) w := by kernel_rfl
theorem as6_no4 (v : Value) (w : World) : (Instr.typeAssert (.iface 144 v) 128 140 true).run Tryz.prog w = .ok (.tuple #[.agg #[.int .i64 0, .int .i64 0, .int .i64 0], .bool false]) w := by kernel_rfl
theorem as6_no5 (v : Value) (w : World) : (Instr.typeAssert (.iface 144 v) 128 142 true).run Tryz.prog w = .ok (.tuple #[.agg #[.int .i64 0], .bool false]) w := by kernel_rfl
theorem varnum (v : Int) (r : Bool) (hr : varOk v = r) (w : World) : Calls Tryz.prog 118 #[.int .i64 v] w (RetB w r) := by
  subst hr
  rcases (show v < 0 ∨ 7 < v ∨ (0 ≤ v ∧ v ≤ 7) by omega) with h | h | ⟨h, h2⟩
  · have HE := Lib.hid (show varOk v = false by simp [varOk]; omega)
    go_enter Tryz.func118, Tryz.ntmps118
    go_wp2
    go_ret
    exact ⟨by rw [HE.out]; rfl, rfl⟩
  · have HE := Lib.hid (show varOk v = false by simp [varOk]; omega)
    have h' : decide (v < 8) = false := by simp; omega
    go_enter Tryz.func118, Tryz.ntmps118
    go_wp2
    go_ret
    exact ⟨by rw [HE.out]; simp, rfl⟩
  · have HE := Lib.hid (show varOk v = true by simp [varOk]; omega)
    have h3 : v < 8 := by omega
    go_enter Tryz.func118, Tryz.ntmps118
    go_wp2
    go_ret
    exact ⟨by rw [HE.out]; rfl, rfl⟩
theorem sensnum (v : Int) (r : Bool) (hr : (decide (0 ≤ v) && decide (v ≤ 3)) = r) (w : World) : Calls Tryz.prog 119 #[.int .i64 v] w (RetB w r) := by
  subst hr
  rcases (show v < 0 ∨ 3 < v ∨ (0 ≤ v ∧ v ≤ 3) by omega) with h | h | ⟨h, h2⟩
  · have HE := Lib.hid (show (decide (0 ≤ v) && decide (v ≤ 3)) = false by simp; omega)
    go_enter Tryz.func119, Tryz.ntmps119
    go_wp2
    go_ret
    exact ⟨by rw [HE.out]; rfl, rfl⟩
  · have HE := Lib.hid (show (decide (0 ≤ v) && decide (v ≤ 3)) = false by simp; omega)
    have h' : decide (v < 4) = false := by simp; omega
    go_enter Tryz.func119, Tryz.ntmps119
    go_wp2
    go_ret
    exact ⟨by rw [HE.out]; simp, rfl⟩
  · have HE := Lib.hid (show (decide (0 ≤ v) && decide (v ≤ 3)) = true by simp; omega)
    have h3 : v < 4 := by omega
    go_enter Tryz.func119, Tryz.ntmps119
    go_wp2
    go_ret
    exact ⟨by rw [HE.out]; rfl, rfl⟩
set_option maxHeartbeats 1000000 in
theorem fields1 (v o a b : Int) (r : Bool) (hr : (varOk v && exprOk o a b) = r) (w : World) : Calls Tryz.prog 116 #[if1 v o a b] w (BelB w r) := by
  subst hr
  have t1 := as1_yes (.agg #[.int .i64 v, .int .i64 o, .int .i64 a, .int .i64 b])
  cases hv : varOk v <;> cases he : exprOk o a b
  all_goals
    have HV := Lib.hid hv
    clear hv
    go_enter Tryz.func116, Tryz.ntmps116
    go_wp2_with (first
      | (go_at_call 118; refine (varnum _ _ HV.out _).mono ?_; rintro e w2 ⟨rfl, rfl⟩)
      | (go_at_call 86; refine (impl_exprok _ _ _ _ he _).mono ?_; rintro e w3 ⟨rfl, hb3⟩))
    go_ret
    first
      | exact ⟨rfl, ((Below.refl _ _).alloc (Nat.le_refl _) _)⟩
      | exact ⟨rfl, below_then ((Below.refl _ _).alloc (Nat.le_refl _) _) hb3⟩
      | exact ⟨by simp; try omega, ((Below.refl _ _).alloc (Nat.le_refl _) _)⟩
set_option maxHeartbeats 1000000 in
theorem fields2 (v n : Int) (r : Bool) (hr : (varOk v && (decide (0 ≤ n) && decide (n ≤ 3))) = r) (w : World) : Calls Tryz.prog 116 #[if2 v n] w (BelB w r) := by
  subst hr
  have t2 := as2_yes (.agg #[.int .i64 v, .int .i64 n])
  have t1 := as2_no1 (.agg #[.int .i64 v, .int .i64 n])
  cases hv : varOk v <;> cases he : (decide (0 ≤ n) && decide (n ≤ 3))
  all_goals
    have HV := Lib.hid hv
    clear hv
    go_enter Tryz.func116, Tryz.ntmps116
    go_wp2_with (first
      | (go_at_call 118; refine (varnum _ _ HV.out _).mono ?_; rintro e w2 ⟨rfl, rfl⟩)
      | (go_at_call 119; refine (sensnum _ _ he _).mono ?_; rintro e w2 ⟨rfl, rfl⟩))
    go_ret
    first
      | exact ⟨rfl, ((Below.refl _ _).alloc (Nat.le_refl _) _)⟩
      | exact ⟨rfl, below_then ((Below.refl _ _).alloc (Nat.le_refl _) _) hb3⟩
      | exact ⟨by simp; try omega, ((Below.refl _ _).alloc (Nat.le_refl _) _)⟩
set_option maxHeartbeats 1000000 in
theorem fields3 (o a b : Int) (r : Bool) (hr : (exprOk o a b) = r) (w : World) : Calls Tryz.prog 116 #[if3 o a b] w (BelB w r) := by
  subst hr
  have t3 := as3_yes (.agg #[.int .i64 o, .int .i64 a, .int .i64 b])
  have t1 := as3_no1 (.agg #[.int .i64 o, .int .i64 a, .int .i64 b])
  have t2 := as3_no2 (.agg #[.int .i64 o, .int .i64 a, .int .i64 b])
  cases he : exprOk o a b
  all_goals
    go_enter Tryz.func116, Tryz.ntmps116
    go_wp2_with (first
      | (go_at_call 86; refine (impl_exprok _ _ _ _ he _).mono ?_; rintro e w3 ⟨rfl, hb3⟩))
    go_ret
    first
      | exact ⟨rfl, ((Below.refl _ _).alloc (Nat.le_refl _) _)⟩
      | exact ⟨rfl, below_then ((Below.refl _ _).alloc (Nat.le_refl _) _) hb3⟩
      | exact ⟨by simp; try omega, ((Below.refl _ _).alloc (Nat.le_refl _) _)⟩
set_option maxHeartbeats 1000000 in
theorem fields4 (o a b : Int) (r : Bool) (hr : (exprOk o a b) = r) (w : World) : Calls Tryz.prog 116 #[if4 o a b] w (BelB w r) := by
  subst hr
  have t4 := as4_yes (.agg #[.int .i64 o, .int .i64 a, .int .i64 b])
  have t1 := as4_no1 (.agg #[.int .i64 o, .int .i64 a, .int .i64 b])
  have t2 := as4_no2 (.agg #[.int .i64 o, .int .i64 a, .int .i64 b])
  have t3 := as4_no3 (.agg #[.int .i64 o, .int .i64 a, .int .i64 b])
  cases he : exprOk o a b
  all_goals
    go_enter Tryz.func116, Tryz.ntmps116
    go_wp2_with (first
      | (go_at_call 86; refine (impl_exprok _ _ _ _ he _).mono ?_; rintro e w3 ⟨rfl, hb3⟩))
    go_ret
    first
      | exact ⟨rfl, ((Below.refl _ _).alloc (Nat.le_refl _) _)⟩
      | exact ⟨rfl, below_then ((Below.refl _ _).alloc (Nat.le_refl _) _) hb3⟩
      | exact ⟨by simp; try omega, ((Below.refl _ _).alloc (Nat.le_refl _) _)⟩
set_option maxHeartbeats 1000000 in
theorem fields5 (n : Int) (r : Bool) (hr : (decide (1 ≤ n) && decide (n ≤ 5)) = r) (w : World) : Calls Tryz.prog 116 #[if5 n] w (BelB w r) := by
  subst hr
  have t5 := as5_yes (.agg #[.int .i64 n])
  have t1 := as5_no1 (.agg #[.int .i64 n])
  have t2 := as5_no2 (.agg #[.int .i64 n])
  have t3 := as5_no3 (.agg #[.int .i64 n])
  have t4 := as5_no4 (.agg #[.int .i64 n])
  rcases (show n < 1 ∨ 5 < n ∨ (1 ≤ n ∧ n ≤ 5) by omega) with h | h | ⟨h, h2⟩
  all_goals
    first | have hd : decide (n ≤ 5) = false := by simp; omega | skip
    go_enter Tryz.func116, Tryz.ntmps116
    go_wp2
    go_ret
    first
      | exact ⟨rfl, ((Below.refl _ _).alloc (Nat.le_refl _) _)⟩
      | exact ⟨rfl, below_then ((Below.refl _ _).alloc (Nat.le_refl _) _) hb3⟩
      | exact ⟨by simp; try omega, ((Below.refl _ _).alloc (Nat.le_refl _) _)⟩
set_option maxHeartbeats 1000000 in
theorem fields6 (r : Bool) (hr : (true) = r) (w : World) : Calls Tryz.prog 116 #[if6 ] w (BelB w r) := by
  subst hr
  have t6 := as6_yes (.agg #[])
  have t1 := as6_no1 (.agg #[])
  have t2 := as6_no2 (.agg #[])
  have t3 := as6_no3 (.agg #[])
  have t4 := as6_no4 (.agg #[])
  have t5 := as6_no5 (.agg #[])
  go_enter Tryz.func116, Tryz.ntmps116
  go_wp2
  go_ret
  first
    | exact ⟨rfl, ((Below.refl _ _).alloc (Nat.le_refl _) _)⟩
    | exact ⟨rfl, below_then ((Below.refl _ _).alloc (Nat.le_refl _) _) hb3⟩
    | exact ⟨by simp; try omega, ((Below.refl _ _).alloc (Nat.le_refl _) _)⟩
end fields_
end Go.Proofs.YtlinpefeojpjnaaGreat.stm
