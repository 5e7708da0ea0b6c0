/- Several texts in one: StmP Box StmC EqS. -/
import Derived.Test.YtlicadaecfgklaaGreatGHub1
import Derived.Laws.Rows
import Derived.Laws.StructEq
import Derived.Deep.RegionHeld3
import Derived.Test.YtlicadaecfgklaaGreatGHub0
import Derived.Deep.MidRow
import Derived.Laws.ResultCell

/- Statements compared and stripped of what their kind does not use: the model's l04Plain and Go's own comparison of two statements; nothing that was there is written. -/
namespace Go.Proofs.YtlicadaecfgklaaGreat.stm
open Go.ChangeShapes Go.WideShapes Go.ChangeAt Go.RowKit Go.Proofs.YtlicadaecfgklaaGreat.row Go.Proofs.YtlicadaecfgklaaGreat.val Go.Proofs.YtlicadaecfgklaaGreat.expr

/-- The statement with those fields alone that its kind uses. -/
def plain (s : St) : St :=
  if s.k = 1 then ⟨s.k, s.v, 0, s.o, s.a, s.b⟩ else if s.k = 2 then ⟨s.k, s.v, s.n, 0, 0, 0⟩ else if s.k = 3 then ⟨s.k, 0, 0, s.o, s.a, s.b⟩
  else if s.k = 4 then ⟨s.k, 0, 0, s.o, s.a, s.b⟩ else if s.k = 5 then ⟨s.k, 0, s.n, 0, 0, 0⟩ else ⟨s.k, 0, 0, 0, 0, 0⟩
/-- The call returns this statement; nothing that was there is written. -/
def BelS (w : World) (s : St) (e : Ending) (w' : World) : Prop := e = .returned (stV s) ∧ Below w.heap.size w w'
theorem kinds (k : Int) : k = 1 ∨ k = 2 ∨ k = 3 ∨ k = 4 ∨ k = 5 ∨ k = 6 ∨ ((k == 1) = false ∧ (k == 2) = false ∧ (k == 3) = false ∧ (k == 4) = false ∧ (k == 5) = false ∧ (k == 6) = false) := by
  simp only [beq_eq_false_iff_ne]; omega

set_option maxHeartbeats 1000000 in
theorem spec_plain (s : St) (w : World) : Calls Tryz.prog 81 #[stV s] w (BelS w (plain s)) := by
  obtain ⟨k, v, n, o, a, b⟩ := s
  rcases kinds k with rfl | rfl | rfl | rfl | rfl | rfl | ⟨h1, h2, h3, h4, h5, h6⟩
  all_goals
    go_enter Tryz.func81, Tryz.ntmps81
    go_wp2
  · refine bodyPost_ret (v := stV ⟨1, v, 0, o, a, b⟩) (by simp [results, Tryz.results81, go_sem]) rfl ⟨rfl, ?_⟩
    all_goals repeat (first | exact Below.refl _ _ | refine Below.alloc ?_ (by simp; try omega) _ | refine Below.setCell ?_ (by simp) _)
  · refine bodyPost_ret (v := stV ⟨2, v, n, 0, 0, 0⟩) (by simp [results, Tryz.results81, go_sem]) rfl ⟨rfl, ?_⟩
    all_goals repeat (first | exact Below.refl _ _ | refine Below.alloc ?_ (by simp; try omega) _ | refine Below.setCell ?_ (by simp) _)
  · refine bodyPost_ret (v := stV ⟨3, 0, 0, o, a, b⟩) (by simp [results, Tryz.results81, go_sem]) rfl ⟨rfl, ?_⟩
    all_goals repeat (first | exact Below.refl _ _ | refine Below.alloc ?_ (by simp; try omega) _ | refine Below.setCell ?_ (by simp) _)
  · refine bodyPost_ret (v := stV ⟨4, 0, 0, o, a, b⟩) (by simp [results, Tryz.results81, go_sem]) rfl ⟨rfl, ?_⟩
    all_goals repeat (first | exact Below.refl _ _ | refine Below.alloc ?_ (by simp; try omega) _ | refine Below.setCell ?_ (by simp) _)
  · refine bodyPost_ret (v := stV ⟨5, 0, n, 0, 0, 0⟩) (by simp [results, Tryz.results81, go_sem]) rfl ⟨rfl, ?_⟩
    all_goals repeat (first | exact Below.refl _ _ | refine Below.alloc ?_ (by simp; try omega) _ | refine Below.setCell ?_ (by simp) _)
  · refine bodyPost_ret (v := stV ⟨6, 0, 0, 0, 0, 0⟩) (by simp [results, Tryz.results81, go_sem]) rfl ⟨rfl, ?_⟩
    all_goals repeat (first | exact Below.refl _ _ | refine Below.alloc ?_ (by simp; try omega) _ | refine Below.setCell ?_ (by simp) _)
  · have hp : plain ⟨k, v, n, o, a, b⟩ = ⟨k, 0, 0, 0, 0, 0⟩ := by
      simp only [beq_eq_false_iff_ne] at h1 h2 h3 h4 h5 h6
      simp [plain, h1, h2, h3, h4, h5]
    rw [hp]
    refine bodyPost_ret (v := stV ⟨k, 0, 0, 0, 0, 0⟩) (by simp [results, Tryz.results81, go_sem]) rfl ⟨rfl, ?_⟩
    all_goals repeat (first | exact Below.refl _ _ | refine Below.alloc ?_ (by simp; try omega) _ | refine Below.setCell ?_ (by simp) _)

theorem held6 {w w' : World} {g : Nat} {x0 x1 x2 x3 x4 x5 : Value} (hb : Below w.heap.size w w') (hg : g < w.heap.size)
    (h : w.cell? ⟨g, 0, none⟩ = some x0 ∧ w.cell? ⟨g, 1, none⟩ = some x1 ∧ w.cell? ⟨g, 2, none⟩ = some x2 ∧ w.cell? ⟨g, 3, none⟩ = some x3 ∧ w.cell? ⟨g, 4, none⟩ = some x4 ∧ w.cell? ⟨g, 5, none⟩ = some x5) :
    w'.cell? ⟨g, 0, none⟩ = some x0 ∧ w'.cell? ⟨g, 1, none⟩ = some x1 ∧ w'.cell? ⟨g, 2, none⟩ = some x2 ∧ w'.cell? ⟨g, 3, none⟩ = some x3 ∧ w'.cell? ⟨g, 4, none⟩ = some x4 ∧ w'.cell? ⟨g, 5, none⟩ = some x5 :=
  ⟨(hb.cell (p := ⟨g, 0, none⟩) hg).trans h.1, (hb.cell (p := ⟨g, 1, none⟩) hg).trans h.2.1, (hb.cell (p := ⟨g, 2, none⟩) hg).trans h.2.2.1, (hb.cell (p := ⟨g, 3, none⟩) hg).trans h.2.2.2.1, (hb.cell (p := ⟨g, 4, none⟩) hg).trans h.2.2.2.2.1, (hb.cell (p := ⟨g, 5, none⟩) hg).trans h.2.2.2.2.2⟩
/-- Two statements are equal field by field. -/
def eqSt (s t : St) : Bool := decide (s = t)
theorem eqSt_fields (s t : St) : eqSt s t = (s.k == t.k && (s.v == t.v && (s.n == t.n && (s.o == t.o && (s.a == t.a && s.b == t.b))))) := by
  obtain ⟨k, v, n, o, a, b⟩ := s
  obtain ⟨k', v', n', o', a', b'⟩ := t
  rw [Bool.eq_iff_iff]; simp [eqSt]
theorem run_eqEx (d : Nat) (o a b o' a' b' : Int) (w : World) : (Op.equalIn (d + 2) 45 (ev o a b) (ev o' a' b')).run Tryz.prog w = .ok (o == o' && (a == a' && b == b')) w := by
  have hS : Tryz.prog.underlying 45 = some (.struct (Tryz.prog.fieldsOf 45)) := by kernel_rfl
  rw [run_equalIn_agg w (d + 1) 45 _ _ hS (by kernel_rfl)]
  clear hS
  simp only [Program.fieldsOf, Tryz.underlying45]
  go_simp
  by_cases h4 : o = o' <;> by_cases h5 : a = a' <;> by_cases h6 : b = b' <;> simp [h4, h5, h6]
theorem run_eqSt (s t : St) (w : World) : (Op.equalIn 10000 68 (stV s) (stV t)).run Tryz.prog w = .ok (eqSt s t) w := by
  rw [eqSt_fields]
  obtain ⟨k, v, n, o, a, b⟩ := s
  obtain ⟨k', v', n', o', a', b'⟩ := t
  have hS : Tryz.prog.underlying 68 = some (.struct (Tryz.prog.fieldsOf 68)) := by kernel_rfl
  rw [show (10000 : Nat) = 9999 + 1 from rfl, run_equalIn_agg w 9999 68 _ _ hS (by kernel_rfl)]
  clear hS
  have hE : ∀ w, (Op.equalIn 9999 45 (ev o a b) (ev o' a' b')).run Tryz.prog w = .ok (o == o' && (a == a' && b == b')) w := fun w => run_eqEx 9997 o a b o' a' b' w
  simp only [Program.fieldsOf, Tryz.underlying68]
  go_simp
  by_cases h1 : k = k' <;> by_cases h2 : v = v' <;> by_cases h3 : n = n' <;> by_cases h4 : o = o' <;> by_cases h5 : a = a' <;> by_cases h6 : b = b' <;> simp [h1, h2, h3, h4, h5, h6]
theorem drew_below {w w' : World} (h : Below w.drew.heap.size w.drew w') : Below w.heap.size w w' := (Below.drew (Below.refl _ w)).trans h
theorem stOk_plain {s : St} (h : stOk s = true) : plain s = s := by
  obtain ⟨k, v, n, o, a, b⟩ := s
  rcases kinds k with rfl | rfl | rfl | rfl | rfl | rfl | ⟨h1, h2, h3, h4, h5, h6⟩
  · simp [stOk] at h; simp [plain, h]
  · simp [stOk, exprZ] at h; simp [plain, h]
  · simp [stOk] at h; simp [plain, h]
  · simp [stOk] at h; simp [plain, h]
  · simp [stOk, exprZ] at h; simp [plain, h]
  · simp [stOk, exprZ] at h; simp [plain, h]
  · simp only [beq_eq_false_iff_ne] at h1 h2 h3 h4 h5 h6
    simp [stOk, h1, h2, h3, h4, h5, h6] at h
theorem not_plain {s t : St} (hp : plain s = t) (h : eqSt s t = false) : stOk s = false := by
  rw [← Bool.not_eq_true]
  intro hs
  rw [← hp, stOk_plain hs] at h
  simp [eqSt] at h
theorem stOk1 (v o a b : Int) : stOk ⟨1, v, 0, o, a, b⟩ = (varOk v && exprOk o a b) := by simp [stOk]
theorem stOk2 (v n : Int) : stOk ⟨2, v, n, 0, 0, 0⟩ = (varOk v && (decide (0 ≤ n) && decide (n ≤ 3))) := by simp [stOk, exprZ]
theorem stOk3 (o a b : Int) : stOk ⟨3, 0, 0, o, a, b⟩ = exprOk o a b := by simp [stOk]
theorem stOk4 (o a b : Int) : stOk ⟨4, 0, 0, o, a, b⟩ = exprOk o a b := by simp [stOk]
theorem stOk5 (n : Int) : stOk ⟨5, 0, n, 0, 0, 0⟩ = (decide (1 ≤ n) && decide (n ≤ 5)) := by simp [stOk, exprZ]
theorem stOk6 : stOk ⟨6, 0, 0, 0, 0, 0⟩ = true := by decide
theorem stOk_other {k v n o a b : Int} (h1 : (k == 1) = false) (h2 : (k == 2) = false) (h3 : (k == 3) = false) (h4 : (k == 4) = false) (h5 : (k == 5) = false) (h6 : (k == 6) = false) : stOk ⟨k, v, n, o, a, b⟩ = false := by
  simp only [beq_eq_false_iff_ne] at h1 h2 h3 h4 h5 h6
  simp [stOk, h1, h2, h3, h4, h5, h6]
theorem plain_other {k v n o a b : Int} (h1 : (k == 1) = false) (h2 : (k == 2) = false) (h3 : (k == 3) = false) (h4 : (k == 4) = false) (h5 : (k == 5) = false) : plain ⟨k, v, n, o, a, b⟩ = ⟨k, 0, 0, 0, 0, 0⟩ := by
  simp only [beq_eq_false_iff_ne] at h1 h2 h3 h4 h5
  simp [plain, h1, h2, h3, h4, h5]
end Go.Proofs.YtlicadaecfgklaaGreat.stm

/- A law for a store of a whole struct into a block that is known whole: behind it the block is the stored cells; nothing else is written. -/
namespace Go.Proofs.YtlicadaecfgklaaGreat.row
open Go.ChangeShapes Go.WideShapes Go.ChangeAt Go.RowKit

theorem box_setCells {t : TypeId} (g : Nat) : ∀ (vs : List Value) (o : Nat) (w : World) (cs : Array Value), Box g cs t w → ∃ cs' : Array Value, cs'.size = cs.size ∧ Box g cs' t (w.setCells g o vs)
  | [], _, _, cs, h => ⟨cs, rfl, h⟩
  | v :: r, o, w, cs, h => by
    obtain ⟨cs', h1, h2⟩ := box_setCells g r (o + 1) (w.setCell ⟨g, o, none⟩ v) _ (h.set o v)
    exact ⟨cs', by rw [h1]; simp, h2⟩
theorem grown_setCells (g : Nat) : ∀ (vs : List Value) (o : Nat) (w : World), w.grownBy (w.setCells g o vs) (some g)
  | [], _, w => grown_refl w _
  | v :: r, o, w => grown_trans (grown_setCell w g o v) (grown_setCells g r (o + 1) (w.setCell ⟨g, o, none⟩ v))
theorem box_there {t : TypeId} {g : Nat} {cs : Array Value} {w : World} (h : Box g cs t w) : w.there g 0 cs.size := fun j hj => by
  refine ⟨?_, h.frozen _⟩
  rw [h.cell, Nat.zero_add]; simp [hj]
theorem box_stored {t : TypeId} {g : Nat} {cs : Array Value} {w : World} (h : Box g cs t w) (cells : Array Value) (hs : cells.size = cs.size) : Box g cells t (w.setCells g 0 cells.toList) := by
  obtain ⟨cs', h1, h2⟩ := box_setCells g cells.toList 0 w cs h
  have e : cs' = cells := by
    apply Array.ext (by omega)
    intro i hi1 hi2
    have hc := h2.cell i
    have hin := World.cell?_setCells_in g cells.toList 0 w (fun j hj => by have := (box_there h j (by simp at hj; omega)).1; simpa using this) i (by simpa using hi2)
    rw [Nat.zero_add] at hin
    rw [hin, Array.getElem?_eq_getElem hi1] at hc
    have := Option.some.inj hc
    simpa using this.symm
  rw [← e]; rw [← e] at h2; exact h2

theorem wpList_store_box {P : Program} {ops : Array Oper} {rest : List Oper} {op : Oper} {a : Act} {w : World} {Q : Exit → Act → World → Prop} (hgd : op.guard = none) (ty : TypeId) (x y : Operand) (ho : op.op = .store ty x y)
    (g : Nat) (cs : Array Value) (t : TypeId) (hb : Box g cs t w) (cells : Array Value) (hx : a.eval x = .pointer (some ⟨g, 0, none⟩)) (hy : a.eval y = .agg cells) (hs : cells.size = cs.size)
    (hi : (P.info? ty).map (·.size) = some cells.size) (h1 : cells.all (·.oneCell') = true)
    (h : ∀ w', Box g cells t w' → w.grownBy w' (some g) → wpList P ops Q rest (a.put op.dst undef) w') : wpList P ops Q (op :: rest) a w :=
  wpList_store_mid hgd ty x y ho g 0 cells hx hy (by rw [hs]; exact box_there hb) hi h1 (h _ (box_stored hb cells hs) (grown_setCells g _ 0 w))
/-- A store of a struct into a part of a block that is known whole. -/
def setAll : Array Value → Nat → List Value → Array Value
  | cs, _, [] => cs
  | cs, o, v :: r => setAll (cs.setIfInBounds o v) (o + 1) r
theorem box_setAll {t : TypeId} (g : Nat) : ∀ (vs : List Value) (o : Nat) (w : World) (cs : Array Value), Box g cs t w → Box g (setAll cs o vs) t (w.setCells g o vs)
  | [], _, _, _, h => h
  | v :: r, o, w, _, h => box_setAll g r (o + 1) (w.setCell ⟨g, o, none⟩ v) _ (h.set o v)
theorem box_there_part {t : TypeId} {g : Nat} {cs : Array Value} {w : World} (h : Box g cs t w) (o n : Nat) (hn : o + n ≤ cs.size) : w.there g o n := fun j hj => by
  refine ⟨?_, h.frozen _⟩
  rw [h.cell]; simp; omega
theorem wpList_store_part {P : Program} {ops : Array Oper} {rest : List Oper} {op : Oper} {a : Act} {w : World} {Q : Exit → Act → World → Prop} (hgd : op.guard = none) (ty : TypeId) (x y : Operand) (ho : op.op = .store ty x y)
    (g o : Nat) (cs : Array Value) (t : TypeId) (hb : Box g cs t w) (cells : Array Value) (hx : a.eval x = .pointer (some ⟨g, o, none⟩)) (hy : a.eval y = .agg cells) (hs : o + cells.size ≤ cs.size)
    (hi : (P.info? ty).map (·.size) = some cells.size) (h1 : cells.all (·.oneCell') = true)
    (h : ∀ w', Box g (setAll cs o cells.toList) t w' → w.grownBy w' (some g) → wpList P ops Q rest (a.put op.dst undef) w') : wpList P ops Q (op :: rest) a w :=
  wpList_store_mid hgd ty x y ho g o cells hx hy (box_there_part hb o _ hs) hi h1 (h _ (box_setAll g _ o _ _ hb) (grown_setCells g _ o w))
/-- The same two laws at a step of a region that draws its order. -/
theorem step_store_box {P : Program} {ops : Array Oper} {o : Oper} {a : Act} {w : World} {K : Act → World → Prop} {Q : Exit → Act → World → Prop} {E : Prop} (hgd : o.guard = none) (ty : TypeId) (x y : Operand) (ho : o.op = .store ty x y)
    (g : Nat) (cs : Array Value) (t : TypeId) (hb : Box g cs t w) (cells : Array Value) (hx : a.eval x = .pointer (some ⟨g, 0, none⟩)) (hy : a.eval y = .agg cells) (hs : cells.size = cs.size)
    (hi : (P.info? ty).map (·.size) = some cells.size) (h1 : cells.all (·.oneCell') = true)
    (h : ∀ w', Box g cells t w' → w.grownBy w' (some g) → K (a.put o.dst undef) w') : if Region.wanted o (yielded ops a.tmps) = true then Oper.wp P o a w K Q else E := by
  have hw : Region.wanted o (yielded ops a.tmps) = true := by simp [Region.wanted, hgd]
  rw [if_pos hw]
  exact wp_store_mid ty x y ho g 0 cells hx hy (by rw [hs]; exact box_there hb) hi h1 (h _ (box_stored hb cells hs) (grown_setCells g _ 0 w))
theorem step_store_part {P : Program} {ops : Array Oper} {op : Oper} {a : Act} {w : World} {K : Act → World → Prop} {Q : Exit → Act → World → Prop} {E : Prop} (hgd : op.guard = none) (ty : TypeId) (x y : Operand) (ho : op.op = .store ty x y)
    (g o : Nat) (cs : Array Value) (t : TypeId) (hb : Box g cs t w) (cells : Array Value) (hx : a.eval x = .pointer (some ⟨g, o, none⟩)) (hy : a.eval y = .agg cells) (hs : o + cells.size ≤ cs.size)
    (hi : (P.info? ty).map (·.size) = some cells.size) (h1 : cells.all (·.oneCell') = true)
    (h : ∀ w', Box g (setAll cs o cells.toList) t w' → w.grownBy w' (some g) → K (a.put op.dst undef) w') : if Region.wanted op (yielded ops a.tmps) = true then Oper.wp P op a w K Q else E := by
  have hw : Region.wanted op (yielded ops a.tmps) = true := by simp [Region.wanted, hgd]
  rw [if_pos hw]
  exact wp_store_mid ty x y ho g o cells hx hy (box_there_part hb o _ hs) hi h1 (h _ (box_setAll g _ o _ _ hb) (grown_setCells g _ o w))
/-- Two results: a struct in a block that is known whole, and a value. -/
theorem results_box2 {P : Program} {fn : Func} {p u : Tmp} {ty : TypeId} (h : fn.results = #[.cell p ty, .tmp u]) (tmps : Array Value) (w : World) (g : Nat) (t : TypeId) (cs : Array Value) (d : TypeDesc) (r : Value)
    (hp : tmps.getD p undef = .pointer (some ⟨g, 0, none⟩)) (hr : tmps.getD u undef = r) (hg : Box g cs t w)
    (hu : P.underlying ty = some d) (hd : (match d with | .struct _ | .array _ _ => true | _ => false) = true) (hi : (P.info? ty).map (·.size) = some cs.size) :
    (results fn tmps).run P w = .ok (.tuple #[.agg cs, r]) w := by
  rw [results_cell_tmp h, hp, hr]
  simp [asAddr, run_loadVar_row w g t ty cs (0, 0) d hg hu hd hi, Result.andThen]
end Go.Proofs.YtlicadaecfgklaaGreat.row

/- A statement is copied field by field, into the program's own type. -/
namespace Go.Proofs.YtlicadaecfgklaaGreat.stm
open Go.ChangeShapes Go.WideShapes Go.ChangeAt Go.RowKit Go.Proofs.YtlicadaecfgklaaGreat.row Go.Proofs.YtlicadaecfgklaaGreat.val Go.Proofs.YtlicadaecfgklaaGreat.expr

set_option maxHeartbeats 1000000 in
theorem toStmt_any (s : St) (w : World) : Calls Tryz.prog 84 #[stV s] w (BelS w s) := by
  obtain ⟨k, v, n, o, a, b⟩ := s
  go_enter Tryz.func84, Tryz.ntmps84
  go_wp2_with (go_at_call 65; refine (toExpr_any _ _ _ _).mono ?_; rintro e w1 ⟨rfl, hb1⟩; refine Hid.out ?_)
  have e1 : ∀ x : Obj, (w.alloc x).heap.size = w.heap.size + 1 := fun x => by simp
  have e2 : ∀ x y : Obj, ((w.alloc x).alloc y).heap.size = w.heap.size + 2 := fun x y => by simp
  have hr := Box.new (w.alloc (.cells #[.int .i64 k, .int .i64 v, .int .i64 n, .int .i64 o, .int .i64 a, .int .i64 b] 105)) #[.int .i64 0, .int .i64 0, .int .i64 0, .int .i64 0, .int .i64 0, .int .i64 0] 68
  rw [e1] at hr
  have hr := (hr.alloc (.cells #[.int .i64 k, .int .i64 v, .int .i64 n, .int .i64 0, .int .i64 0, .int .i64 0] 68)).below hb1
  have hx := Box.new ((w.alloc (.cells #[.int .i64 k, .int .i64 v, .int .i64 n, .int .i64 o, .int .i64 a, .int .i64 b] 105)).alloc (.cells #[.int .i64 0, .int .i64 0, .int .i64 0, .int .i64 0, .int .i64 0, .int .i64 0] 68)) #[.int .i64 k, .int .i64 v, .int .i64 n, .int .i64 0, .int .i64 0, .int .i64 0] 68
  rw [e2] at hx
  have hx := hx.below hb1
  have HB := Lib.hid (show Below w.heap.size w w1 from Below.trans ((((Below.refl _ _).alloc (Nat.le_refl _) _).alloc (by simp) _).alloc (by simp; omega) _) (hb1.mono (by simp; omega)))
  have H := Lib.hid (And.intro hr hx)
  clear hb1 hr hx
  refine Lib.hid ?_
  go_wp2_with ((refine wpList_store_part rfl 45 _ _ rfl (w.heap.size + 2) 3 _ _ H.out.2 #[.int .i64 o, .int .i64 a, .int .i64 b] rfl rfl (by simp) (by kernel_rfl) (by simp [Value.oneCell']) ?_); intro w2 hx2 hg2; refine Hid.out ?_)
  have hr2 := H.out.1.grown hg2 (by simp)
  have H2 := Lib.hid (show Box (w.heap.size + 2) #[.int .i64 k, .int .i64 v, .int .i64 n, .int .i64 o, .int .i64 a, .int .i64 b] 68 w2 from hx2)
  have HB2 := Lib.hid (HB.out.grown hg2 HB.out.size (fun j hj => by cases hj; omega))
  have HR2 := Lib.hid hr2
  clear hx2 hg2 hr2
  refine Lib.hid ?_
  go_wp2_with (first
    | (refine wpList_load_row rfl 68 _ rfl (w.heap.size + 2) rfl _ _ _ _ H2.out Tryz.underlying68 rfl (by kernel_rfl) ?_)
    | ((refine wpList_store_box rfl 68 _ _ rfl (w.heap.size + 1) _ _ HR2.out #[.int .i64 k, .int .i64 v, .int .i64 n, .int .i64 o, .int .i64 a, .int .i64 b] rfl rfl rfl (by kernel_rfl) (by simp [Value.oneCell']) ?_); intro w3 hx3 hg3; refine Hid.out ?_))
  have HB3 := Lib.hid (HB2.out.grown hg3 HB2.out.size (fun j hj => by cases hj; omega))
  have H3 := Lib.hid hx3
  clear hx3 hg3
  refine Lib.hid ?_
  go_wp2
  exact bodyPost_ret (v := stV ⟨k, v, n, o, a, b⟩) (results_cell_row rfl _ _ (w.heap.size + 1) _ _ _ _ rfl H3.out Tryz.underlying68 rfl (by kernel_rfl)) rfl ⟨rfl, HB3.out⟩
end Go.Proofs.YtlicadaecfgklaaGreat.stm

/- The law's own comparison of two statements, at two that are the same. -/
namespace Go.Proofs.YtlicadaecfgklaaGreat.stm
open Go.ChangeShapes Go.WideShapes Go.ChangeAt Go.RowKit Go.Proofs.YtlicadaecfgklaaGreat.row Go.Proofs.YtlicadaecfgklaaGreat.val Go.Proofs.YtlicadaecfgklaaGreat.expr

theorem eqexpr_same (o a b : Int) (w : World) : Calls Tryz.prog 79 #[ev o a b, ev o a b] w (BelB w true) := by
  go_enter Tryz.func79, Tryz.ntmps79
  go_wp2
  go_ret
  exact ⟨rfl, ((Below.refl _ w).alloc (Nat.le_refl _) _).alloc (by simp) _⟩
theorem eqstmt_same (s : St) (w : World) : Calls Tryz.prog 94 #[stV s, stV s] w (BelB w true) := by
  obtain ⟨k, v, n, o, a, b⟩ := s
  go_enter Tryz.func94, Tryz.ntmps94
  go_wp2_with (go_at_call 79; refine (eqexpr_same o a b _).mono ?_; rintro e w1 ⟨rfl, hb1⟩)
  go_ret
  exact ⟨rfl, Below.trans (((Below.refl _ w).alloc (Nat.le_refl _) _).alloc (by simp) _) (hb1.mono (by simp; omega))⟩
end Go.Proofs.YtlicadaecfgklaaGreat.stm
