/- Several texts in one: StmP Box StmC EqS StmR OpenB. -/
import Derived.Test.YtlinpefeojpjnaaGHub1
import Derived.Laws.Rows
import Derived.Laws.StructEq
import Derived.Deep.RegionHeld3
import Derived.Test.YtlinpefeojpjnaaGHub0
import Derived.Deep.MidRow
import Derived.Laws.ResultCell
import Derived.Deep.Slices

/- Statements compared and stripped of what their kind does not use: the model's l04Plain and Go's own comparison of two statements; nothing that was there is written. -/
namespace Go.Proofs.Ytlinpefeojpjnaa.stm
open Go.ChangeShapes Go.WideShapes Go.ChangeAt Go.RowKit Go.Proofs.Ytlinpefeojpjnaa.row Go.Proofs.Ytlinpefeojpjnaa.val Go.Proofs.Ytlinpefeojpjnaa.expr

/-- The statement with those fields alone that its kind uses. -/
def plain (s : St) : St :=
  if s.k = 1 then ⟨s.k, s.v, 0, s.o, s.a, s.b⟩ else if s.k = 2 then ⟨s.k, s.v, s.n, 0, 0, 0⟩ else if s.k = 3 then ⟨s.k, 0, 0, s.o, s.a, s.b⟩
  else if s.k = 4 then ⟨s.k, 0, 0, s.o, s.a, s.b⟩ else if s.k = 5 then ⟨s.k, 0, s.n, 0, 0, 0⟩ else ⟨s.k, 0, 0, 0, 0, 0⟩
/-- The call returns this statement; nothing that was there is written. -/
def BelS (w : World) (s : St) (e : Ending) (w' : World) : Prop := e = .returned (stV s) ∧ Below w.heap.size w w'
theorem kinds (k : Int) : k = 1 ∨ k = 2 ∨ k = 3 ∨ k = 4 ∨ k = 5 ∨ k = 6 ∨ ((k == 1) = false ∧ (k == 2) = false ∧ (k == 3) = false ∧ (k == 4) = false ∧ (k == 5) = false ∧ (k == 6) = false) := by
  simp only [beq_eq_false_iff_ne]; omega


theorem held6 {w w' : World} {g : Nat} {x0 x1 x2 x3 x4 x5 : Value} (hb : Below w.heap.size w w') (hg : g < w.heap.size)
    (h : w.cell? ⟨g, 0, none⟩ = some x0 ∧ w.cell? ⟨g, 1, none⟩ = some x1 ∧ w.cell? ⟨g, 2, none⟩ = some x2 ∧ w.cell? ⟨g, 3, none⟩ = some x3 ∧ w.cell? ⟨g, 4, none⟩ = some x4 ∧ w.cell? ⟨g, 5, none⟩ = some x5) :
    w'.cell? ⟨g, 0, none⟩ = some x0 ∧ w'.cell? ⟨g, 1, none⟩ = some x1 ∧ w'.cell? ⟨g, 2, none⟩ = some x2 ∧ w'.cell? ⟨g, 3, none⟩ = some x3 ∧ w'.cell? ⟨g, 4, none⟩ = some x4 ∧ w'.cell? ⟨g, 5, none⟩ = some x5 :=
  ⟨(hb.cell (p := ⟨g, 0, none⟩) hg).trans h.1, (hb.cell (p := ⟨g, 1, none⟩) hg).trans h.2.1, (hb.cell (p := ⟨g, 2, none⟩) hg).trans h.2.2.1, (hb.cell (p := ⟨g, 3, none⟩) hg).trans h.2.2.2.1, (hb.cell (p := ⟨g, 4, none⟩) hg).trans h.2.2.2.2.1, (hb.cell (p := ⟨g, 5, none⟩) hg).trans h.2.2.2.2.2⟩
/-- Two statements are equal field by field. -/
def eqSt (s t : St) : Bool := decide (s = t)
theorem eqSt_fields (s t : St) : eqSt s t = (s.k == t.k && (s.v == t.v && (s.n == t.n && (s.o == t.o && (s.a == t.a && s.b == t.b))))) := by
  obtain ⟨k, v, n, o, a, b⟩ := s
  obtain ⟨k', v', n', o', a', b'⟩ := t
  rw [Bool.eq_iff_iff]; simp [eqSt]
theorem run_eqEx (d : Nat) (o a b o' a' b' : Int) (w : World) : (Op.equalIn (d + 2) 62 (ev o a b) (ev o' a' b')).run Try.prog w = .ok (o == o' && (a == a' && b == b')) w := by
  have hS : Try.prog.underlying 62 = some (.struct (Try.prog.fieldsOf 62)) := by kernel_rfl
  rw [run_equalIn_agg w (d + 1) 62 _ _ hS (by kernel_rfl)]
  clear hS
  simp only [Program.fieldsOf, Try.underlying62]
  go_simp
  by_cases h4 : o = o' <;> by_cases h5 : a = a' <;> by_cases h6 : b = b' <;> simp [h4, h5, h6]
theorem run_eqSt (s t : St) (w : World) : (Op.equalIn 10000 87 (stV s) (stV t)).run Try.prog w = .ok (eqSt s t) w := by
  rw [eqSt_fields]
  obtain ⟨k, v, n, o, a, b⟩ := s
  obtain ⟨k', v', n', o', a', b'⟩ := t
  have hS : Try.prog.underlying 87 = some (.struct (Try.prog.fieldsOf 87)) := by kernel_rfl
  rw [show (10000 : Nat) = 9999 + 1 from rfl, run_equalIn_agg w 9999 87 _ _ hS (by kernel_rfl)]
  clear hS
  have hE : ∀ w, (Op.equalIn 9999 62 (ev o a b) (ev o' a' b')).run Try.prog w = .ok (o == o' && (a == a' && b == b')) w := fun w => run_eqEx 9997 o a b o' a' b' w
  simp only [Program.fieldsOf, Try.underlying87]
  go_simp
  by_cases h1 : k = k' <;> by_cases h2 : v = v' <;> by_cases h3 : n = n' <;> by_cases h4 : o = o' <;> by_cases h5 : a = a' <;> by_cases h6 : b = b' <;> simp [h1, h2, h3, h4, h5, h6]
theorem drew_below {w w' : World} (h : Below w.drew.heap.size w.drew w') : Below w.heap.size w w' := (Below.drew (Below.refl _ w)).trans h
theorem stOk_plain {s : St} (h : stOk s = true) : plain s = s := by
  obtain ⟨k, v, n, o, a, b⟩ := s
  rcases kinds k with rfl | rfl | rfl | rfl | rfl | rfl | ⟨h1, h2, h3, h4, h5, h6⟩
  · simp [stOk] at h; simp [plain, h]
  · simp [stOk, exprZ] at h; simp [plain, h]
  · simp [stOk] at h; simp [plain, h]
  · simp [stOk] at h; simp [plain, h]
  · simp [stOk, exprZ] at h; simp [plain, h]
  · simp [stOk, exprZ] at h; simp [plain, h]
  · simp only [beq_eq_false_iff_ne] at h1 h2 h3 h4 h5 h6
    simp [stOk, h1, h2, h3, h4, h5, h6] at h
theorem not_plain {s t : St} (hp : plain s = t) (h : eqSt s t = false) : stOk s = false := by
  rw [← Bool.not_eq_true]
  intro hs
  rw [← hp, stOk_plain hs] at h
  simp [eqSt] at h
theorem stOk1 (v o a b : Int) : stOk ⟨1, v, 0, o, a, b⟩ = (varOk v && exprOk o a b) := by simp [stOk]
theorem stOk2 (v n : Int) : stOk ⟨2, v, n, 0, 0, 0⟩ = (varOk v && (decide (0 ≤ n) && decide (n ≤ 3))) := by simp [stOk, exprZ]
theorem stOk3 (o a b : Int) : stOk ⟨3, 0, 0, o, a, b⟩ = exprOk o a b := by simp [stOk]
theorem stOk4 (o a b : Int) : stOk ⟨4, 0, 0, o, a, b⟩ = exprOk o a b := by simp [stOk]
theorem stOk5 (n : Int) : stOk ⟨5, 0, n, 0, 0, 0⟩ = (decide (1 ≤ n) && decide (n ≤ 5)) := by simp [stOk, exprZ]
theorem stOk6 : stOk ⟨6, 0, 0, 0, 0, 0⟩ = true := by decide
theorem stOk_other {k v n o a b : Int} (h1 : (k == 1) = false) (h2 : (k == 2) = false) (h3 : (k == 3) = false) (h4 : (k == 4) = false) (h5 : (k == 5) = false) (h6 : (k == 6) = false) : stOk ⟨k, v, n, o, a, b⟩ = false := by
  simp only [beq_eq_false_iff_ne] at h1 h2 h3 h4 h5 h6
  simp [stOk, h1, h2, h3, h4, h5, h6]
theorem plain_other {k v n o a b : Int} (h1 : (k == 1) = false) (h2 : (k == 2) = false) (h3 : (k == 3) = false) (h4 : (k == 4) = false) (h5 : (k == 5) = false) : plain ⟨k, v, n, o, a, b⟩ = ⟨k, 0, 0, 0, 0, 0⟩ := by
  simp only [beq_eq_false_iff_ne] at h1 h2 h3 h4 h5
  simp [plain, h1, h2, h3, h4, h5]
end Go.Proofs.Ytlinpefeojpjnaa.stm

/- A law for a store of a whole struct into a block that is known whole: behind it the block is the stored cells; nothing else is written. -/
namespace Go.Proofs.Ytlinpefeojpjnaa.row
open Go.ChangeShapes Go.WideShapes Go.ChangeAt Go.RowKit

theorem box_setCells {t : TypeId} (g : Nat) : ∀ (vs : List Value) (o : Nat) (w : World) (cs : Array Value), Box g cs t w → ∃ cs' : Array Value, cs'.size = cs.size ∧ Box g cs' t (w.setCells g o vs)
  | [], _, _, cs, h => ⟨cs, rfl, h⟩
  | v :: r, o, w, cs, h => by
    obtain ⟨cs', h1, h2⟩ := box_setCells g r (o + 1) (w.setCell ⟨g, o, none⟩ v) _ (h.set o v)
    exact ⟨cs', by rw [h1]; simp, h2⟩
theorem grown_setCells (g : Nat) : ∀ (vs : List Value) (o : Nat) (w : World), w.grownBy (w.setCells g o vs) (some g)
  | [], _, w => grown_refl w _
  | v :: r, o, w => grown_trans (grown_setCell w g o v) (grown_setCells g r (o + 1) (w.setCell ⟨g, o, none⟩ v))
theorem box_there {t : TypeId} {g : Nat} {cs : Array Value} {w : World} (h : Box g cs t w) : w.there g 0 cs.size := fun j hj => by
  refine ⟨?_, h.frozen _⟩
  rw [h.cell, Nat.zero_add]; simp [hj]
theorem box_stored {t : TypeId} {g : Nat} {cs : Array Value} {w : World} (h : Box g cs t w) (cells : Array Value) (hs : cells.size = cs.size) : Box g cells t (w.setCells g 0 cells.toList) := by
  obtain ⟨cs', h1, h2⟩ := box_setCells g cells.toList 0 w cs h
  have e : cs' = cells := by
    apply Array.ext (by omega)
    intro i hi1 hi2
    have hc := h2.cell i
    have hin := World.cell?_setCells_in g cells.toList 0 w (fun j hj => by have := (box_there h j (by simp at hj; omega)).1; simpa using this) i (by simpa using hi2)
    rw [Nat.zero_add] at hin
    rw [hin, Array.getElem?_eq_getElem hi1] at hc
    have := Option.some.inj hc
    simpa using this.symm
  rw [← e]; rw [← e] at h2; exact h2

theorem wpList_store_box {P : Program} {ops : Array Oper} {rest : List Oper} {op : Oper} {a : Act} {w : World} {Q : Exit → Act → World → Prop} (hgd : op.guard = none) (ty : TypeId) (x y : Operand) (ho : op.op = .store ty x y)
    (g : Nat) (cs : Array Value) (t : TypeId) (hb : Box g cs t w) (cells : Array Value) (hx : a.eval x = .pointer (some ⟨g, 0, none⟩)) (hy : a.eval y = .agg cells) (hs : cells.size = cs.size)
    (hi : (P.info? ty).map (·.size) = some cells.size) (h1 : cells.all (·.oneCell') = true)
    (h : ∀ w', Box g cells t w' → w.grownBy w' (some g) → wpList P ops Q rest (a.put op.dst undef) w') : wpList P ops Q (op :: rest) a w :=
  wpList_store_mid hgd ty x y ho g 0 cells hx hy (by rw [hs]; exact box_there hb) hi h1 (h _ (box_stored hb cells hs) (grown_setCells g _ 0 w))
/-- A store of a struct into a part of a block that is known whole. -/
def setAll : Array Value → Nat → List Value → Array Value
  | cs, _, [] => cs
  | cs, o, v :: r => setAll (cs.setIfInBounds o v) (o + 1) r
theorem box_setAll {t : TypeId} (g : Nat) : ∀ (vs : List Value) (o : Nat) (w : World) (cs : Array Value), Box g cs t w → Box g (setAll cs o vs) t (w.setCells g o vs)
  | [], _, _, _, h => h
  | v :: r, o, w, _, h => box_setAll g r (o + 1) (w.setCell ⟨g, o, none⟩ v) _ (h.set o v)
theorem box_there_part {t : TypeId} {g : Nat} {cs : Array Value} {w : World} (h : Box g cs t w) (o n : Nat) (hn : o + n ≤ cs.size) : w.there g o n := fun j hj => by
  refine ⟨?_, h.frozen _⟩
  rw [h.cell]; simp; omega
theorem wpList_store_part {P : Program} {ops : Array Oper} {rest : List Oper} {op : Oper} {a : Act} {w : World} {Q : Exit → Act → World → Prop} (hgd : op.guard = none) (ty : TypeId) (x y : Operand) (ho : op.op = .store ty x y)
    (g o : Nat) (cs : Array Value) (t : TypeId) (hb : Box g cs t w) (cells : Array Value) (hx : a.eval x = .pointer (some ⟨g, o, none⟩)) (hy : a.eval y = .agg cells) (hs : o + cells.size ≤ cs.size)
    (hi : (P.info? ty).map (·.size) = some cells.size) (h1 : cells.all (·.oneCell') = true)
    (h : ∀ w', Box g (setAll cs o cells.toList) t w' → w.grownBy w' (some g) → wpList P ops Q rest (a.put op.dst undef) w') : wpList P ops Q (op :: rest) a w :=
  wpList_store_mid hgd ty x y ho g o cells hx hy (box_there_part hb o _ hs) hi h1 (h _ (box_setAll g _ o _ _ hb) (grown_setCells g _ o w))
/-- The same two laws at a step of a region that draws its order. -/
theorem step_store_box {P : Program} {ops : Array Oper} {o : Oper} {a : Act} {w : World} {K : Act → World → Prop} {Q : Exit → Act → World → Prop} {E : Prop} (hgd : o.guard = none) (ty : TypeId) (x y : Operand) (ho : o.op = .store ty x y)
    (g : Nat) (cs : Array Value) (t : TypeId) (hb : Box g cs t w) (cells : Array Value) (hx : a.eval x = .pointer (some ⟨g, 0, none⟩)) (hy : a.eval y = .agg cells) (hs : cells.size = cs.size)
    (hi : (P.info? ty).map (·.size) = some cells.size) (h1 : cells.all (·.oneCell') = true)
    (h : ∀ w', Box g cells t w' → w.grownBy w' (some g) → K (a.put o.dst undef) w') : if Region.wanted o (yielded ops a.tmps) = true then Oper.wp P o a w K Q else E := by
  have hw : Region.wanted o (yielded ops a.tmps) = true := by simp [Region.wanted, hgd]
  rw [if_pos hw]
  exact wp_store_mid ty x y ho g 0 cells hx hy (by rw [hs]; exact box_there hb) hi h1 (h _ (box_stored hb cells hs) (grown_setCells g _ 0 w))
theorem step_store_part {P : Program} {ops : Array Oper} {op : Oper} {a : Act} {w : World} {K : Act → World → Prop} {Q : Exit → Act → World → Prop} {E : Prop} (hgd : op.guard = none) (ty : TypeId) (x y : Operand) (ho : op.op = .store ty x y)
    (g o : Nat) (cs : Array Value) (t : TypeId) (hb : Box g cs t w) (cells : Array Value) (hx : a.eval x = .pointer (some ⟨g, o, none⟩)) (hy : a.eval y = .agg cells) (hs : o + cells.size ≤ cs.size)
    (hi : (P.info? ty).map (·.size) = some cells.size) (h1 : cells.all (·.oneCell') = true)
    (h : ∀ w', Box g (setAll cs o cells.toList) t w' → w.grownBy w' (some g) → K (a.put op.dst undef) w') : if Region.wanted op (yielded ops a.tmps) = true then Oper.wp P op a w K Q else E := by
  have hw : Region.wanted op (yielded ops a.tmps) = true := by simp [Region.wanted, hgd]
  rw [if_pos hw]
  exact wp_store_mid ty x y ho g o cells hx hy (box_there_part hb o _ hs) hi h1 (h _ (box_setAll g _ o _ _ hb) (grown_setCells g _ o w))
/-- Two results: a struct in a block that is known whole, and a value. -/
theorem results_box2 {P : Program} {fn : Func} {p u : Tmp} {ty : TypeId} (h : fn.results = #[.cell p ty, .tmp u]) (tmps : Array Value) (w : World) (g : Nat) (t : TypeId) (cs : Array Value) (d : TypeDesc) (r : Value)
    (hp : tmps.getD p undef = .pointer (some ⟨g, 0, none⟩)) (hr : tmps.getD u undef = r) (hg : Box g cs t w)
    (hu : P.underlying ty = some d) (hd : (match d with | .struct _ | .array _ _ => true | _ => false) = true) (hi : (P.info? ty).map (·.size) = some cs.size) :
    (results fn tmps).run P w = .ok (.tuple #[.agg cs, r]) w := by
  rw [results_cell_tmp h, hp, hr]
  simp [asAddr, run_loadVar_row w g t ty cs (0, 0) d hg hu hd hi, Result.andThen]
end Go.Proofs.Ytlinpefeojpjnaa.row

/- A statement is copied field by field, into the program's own type. -/
namespace Go.Proofs.Ytlinpefeojpjnaa.stm
open Go.ChangeShapes Go.WideShapes Go.ChangeAt Go.RowKit Go.Proofs.Ytlinpefeojpjnaa.row Go.Proofs.Ytlinpefeojpjnaa.val Go.Proofs.Ytlinpefeojpjnaa.expr

end Go.Proofs.Ytlinpefeojpjnaa.stm

/- The law's own comparison of two statements, at two that are the same. -/
namespace Go.Proofs.Ytlinpefeojpjnaa.stm
open Go.ChangeShapes Go.WideShapes Go.ChangeAt Go.RowKit Go.Proofs.Ytlinpefeojpjnaa.row Go.Proofs.Ytlinpefeojpjnaa.val Go.Proofs.Ytlinpefeojpjnaa.expr

end Go.Proofs.Ytlinpefeojpjnaa.stm

/- Rows of statements: a slice that reads as a list of statements; the law's own copy, size and comparison of such a slice. -/
namespace Go.Proofs.Ytlinpefeojpjnaa.stm
open Go Go.ChangeShapes Go.WideShapes Go.ChangeAt Go.RowKit Go.Proofs.Ytlinpefeojpjnaa.row Go.Proofs.Ytlinpefeojpjnaa.val Go.Proofs.Ytlinpefeojpjnaa.expr

/-- The slice at 'a' of 'n' statements reads as the list 'L'. -/
def StRow (w : World) (a : Option Addr) (n : Nat) (L : List St) : Prop :=
  L.length = n ∧ ∀ k, k < n → ∃ (b off : Nat) (s : St), a = some ⟨b, off, none⟩ ∧ b < w.heap.size ∧ L[k]? = some s ∧ w.rangeAt b (off + k * 6) (stC s)
theorem StRow.below {w w' : World} {a : Option Addr} {n : Nat} {L : List St} (h : StRow w a n L) (hb : Below w.heap.size w w') : StRow w' a n L :=
  ⟨h.1, fun k hk => by
    obtain ⟨b, off, s, rfl, hlt, hs, hr⟩ := h.2 k hk
    exact ⟨b, off, s, rfl, Nat.lt_of_lt_of_le hlt hb.size, hs, fun j v hv => (hb.cell (p := ⟨b, off + k * 6 + j, none⟩) hlt).trans (hr j v hv)⟩⟩
theorem StRow.nil (w : World) (a : Option Addr) : StRow w a 0 [] := ⟨rfl, fun k hk => by omega⟩
theorem StRow.take {w : World} {a : Option Addr} {n : Nat} {L : List St} (h : StRow w a n L) (k : Nat) (hk : k ≤ n) : StRow w a k (L.take k) :=
  ⟨by rw [List.length_take, h.1]; omega, fun j hj => by
    obtain ⟨b, off, s, e, hlt, hs, hr⟩ := h.2 j (by omega)
    exact ⟨b, off, s, e, hlt, by rw [List.getElem?_take, if_pos hj]; exact hs, hr⟩⟩
/-- A block that is a list of statements, whole. -/
theorem StRow.of_box {w : World} {g : Nat} {L : List St} {t : TypeId} (h : Box g (stsC L).toArray t w) : StRow w (some ⟨g, 0, none⟩) L.length L :=
  ⟨rfl, fun k hk => ⟨g, 0, L[k], rfl, h.lt, by simp [hk], fun j v hv => by
    have hj : j < 6 := by have := (List.getElem?_eq_some_iff.1 hv).1; simpa [stC] using this
    have h2 := stsC_at (L := L) (i := k) (s := L[k]) (by simp [hk]) j hj
    rw [show 0 + k * 6 + j = k * 6 + j by omega, h.cell]
    rw [List.getElem?_toArray, h2, hv]⟩⟩
theorem StRow.of_own {w : World} {base : Nat} {a : Option Addr} {n cap : Nat} {L : List St} {t : TypeId} (h : w.ownsRow base t 6 (.slice a n cap) n (stsC L)) : StRow w a n L := by
  have hl : L.length = n := by have := h.1; rw [stsC_len] at this; omega
  refine ⟨hl, fun k hk => ?_⟩
  obtain ⟨g, c, hv, _, hg⟩ := h.form (by omega)
  injection hv with h1 h2 h3
  subst h1
  refine ⟨g, 0, L[k], rfl, hg, by simp [hl, hk], fun j v hjv => ?_⟩
  have hj : j < 6 := by have := (List.getElem?_eq_some_iff.1 hjv).1; simpa [stC] using this
  have h4 := stsC_at (L := L) (i := k) (s := L[k]) (by simp [hl, hk]) j hj
  rw [show 0 + k * 6 + j = k * 6 + j by omega, h.cellAt (k * 6 + j) (by omega), h4, hjv]
theorem setAll_mid : ∀ (vs A B C : List Value), B.length = vs.length → setAll (A ++ (B ++ C)).toArray A.length vs = (A ++ (vs ++ C)).toArray
  | [], A, B, C, h => by
    obtain rfl : B = [] := List.eq_nil_of_length_eq_zero h
    rfl
  | v :: r, A, b :: B, C, h => by
    have e : (A ++ (b :: B ++ C)).toArray.setIfInBounds A.length v = ((A ++ [v]) ++ (B ++ C)).toArray := by
      simp [List.setIfInBounds_toArray, List.set_append_right]
    show setAll ((A ++ (b :: B ++ C)).toArray.setIfInBounds A.length v) (A.length + 1) r = _
    rw [e]
    have := setAll_mid r (A ++ [v]) B C (by simpa using h)
    rw [List.length_append, List.length_singleton] at this
    rw [this]; simp
  | _ :: _, _, [], _, h => by simp at h
theorem copy_next {L : List St} {n k : Nat} {s : St} (hl : L.length = n) (hk : k < n) (hs : L[k]? = some s) :
    setAll (stsC (L.take k) ++ List.replicate ((n - k) * 6) (Value.int .i64 0)).toArray (k * 6) (stC s) = (stsC (L.take (k + 1)) ++ List.replicate ((n - (k + 1)) * 6) (Value.int .i64 0)).toArray := by
  have e1 : (n - k) * 6 = 6 + (n - (k + 1)) * 6 := by omega
  have e2 : k * 6 = (stsC (L.take k)).length := by rw [stsC_len, List.length_take]; omega
  rw [e1, ← List.replicate_append_replicate, e2, setAll_mid _ _ _ _ (by simp [stC])]
  rw [List.take_add_one, hs, stsC_app]
  simp [stsC]
theorem StRow.of_box' {w : World} {g n : Nat} {L : List St} {t : TypeId} (h : Box g (stsC L).toArray t w) (hl : L.length = n) : StRow w (some ⟨g, 0, none⟩) n L := hl ▸ StRow.of_box h
/-- A copy of the row in new memory. -/
def MadeSts (w : World) (n : Nat) (L : List St) (e : Ending) (w' : World) : Prop :=
  e = .returned (.slice (some ⟨w.heap.size, 0, none⟩) n n) ∧ Box w.heap.size (stsC L).toArray 87 w' ∧ Below w.heap.size w w'
theorem own_box {w : World} {base g n : Nat} {t : TypeId} {xs : List Value} (h : w.ownsRow base t 6 (.slice (some ⟨g, 0, none⟩) n n) n xs) : Box g xs.toArray t w := by
  rcases h.2 with ⟨h0, _⟩ | ⟨g', cap, cur, hv, _, hg, _, _, hs, ht⟩
  · simp at h0
  · simp only [Value.slice.injEq, Option.some.injEq, Addr.mk.injEq, and_true, true_and] at hv
    obtain ⟨rfl, rfl⟩ := hv
    have e : xs = cur.toList := by rw [← ht]; exact List.take_of_length_le (by rw [Array.length_toList, hs]; exact Nat.le_refl _)
    unfold Box
    rw [e, Array.toArray_toList]; exact hg
theorem made_st_zeros (n : Nat) : (madeCells (stV ⟨0, 0, 0, 0, 0, 0⟩).cells n).toList = List.replicate n (Value.int .i64 0) := by
  apply List.ext_getElem?
  intro j
  by_cases hj : j < n
  · have h6 : j % 6 = 0 ∨ j % 6 = 1 ∨ j % 6 = 2 ∨ j % 6 = 3 ∨ j % 6 = 4 ∨ j % 6 = 5 := by omega
    rw [List.getElem?_replicate, if_pos hj]
    simp only [madeCells, Array.toList_map, List.getElem?_map, Array.toList_range, List.getElem?_range hj, Option.map_some]
    show some ((stV ⟨0, 0, 0, 0, 0, 0⟩).cells[j % 6]!) = _
    rcases h6 with h | h | h | h | h | h <;> rw [h] <;> rfl
  · rw [List.getElem?_eq_none (by rw [Array.length_toList, size_madeCells]; omega), List.getElem?_eq_none (by rw [List.length_replicate]; omega)]
theorem infoStmt : (Try.prog.info? 87).map (fun i => (i.zero, i.size, i.bytes)) = some (some (stV ⟨0, 0, 0, 0, 0, 0⟩), 6, 48) := by kernel_rfl
theorem held6o {w w' : World} {g o : Nat} {x0 x1 x2 x3 x4 x5 : Value} (hb : Below w.heap.size w w') (hg : g < w.heap.size)
    (h : w.cell? ⟨g, o, none⟩ = some x0 ∧ w.cell? ⟨g, o + 1, none⟩ = some x1 ∧ w.cell? ⟨g, o + 2, none⟩ = some x2 ∧ w.cell? ⟨g, o + 3, none⟩ = some x3 ∧ w.cell? ⟨g, o + 4, none⟩ = some x4 ∧ w.cell? ⟨g, o + 5, none⟩ = some x5) :
    w'.cell? ⟨g, o, none⟩ = some x0 ∧ w'.cell? ⟨g, o + 1, none⟩ = some x1 ∧ w'.cell? ⟨g, o + 2, none⟩ = some x2 ∧ w'.cell? ⟨g, o + 3, none⟩ = some x3 ∧ w'.cell? ⟨g, o + 4, none⟩ = some x4 ∧ w'.cell? ⟨g, o + 5, none⟩ = some x5 :=
  ⟨(hb.cell (p := ⟨g, o, none⟩) hg).trans h.1, (hb.cell (p := ⟨g, o + 1, none⟩) hg).trans h.2.1, (hb.cell (p := ⟨g, o + 2, none⟩) hg).trans h.2.2.1, (hb.cell (p := ⟨g, o + 3, none⟩) hg).trans h.2.2.2.1, (hb.cell (p := ⟨g, o + 4, none⟩) hg).trans h.2.2.2.2.1, (hb.cell (p := ⟨g, o + 5, none⟩) hg).trans h.2.2.2.2.2⟩
/-- The six cells of a statement that lies in a row. -/
theorem range6 {w : World} {g o : Nat} {s : St} (h : w.rangeAt g o (stC s)) : w.cell? ⟨g, o, none⟩ = some (.int .i64 s.k) ∧ w.cell? ⟨g, o + 1, none⟩ = some (.int .i64 s.v) ∧ w.cell? ⟨g, o + 2, none⟩ = some (.int .i64 s.n) ∧ w.cell? ⟨g, o + 3, none⟩ = some (.int .i64 s.o) ∧ w.cell? ⟨g, o + 4, none⟩ = some (.int .i64 s.a) ∧ w.cell? ⟨g, o + 5, none⟩ = some (.int .i64 s.b) :=
  ⟨h 0 _ rfl, h 1 _ rfl, h 2 _ rfl, h 3 _ rfl, h 4 _ rfl, h 5 _ rfl⟩
theorem range_lt {w : World} {g o : Nat} {s : St} (h : w.rangeAt g o (stC s)) : g < w.heap.size := World.block_lt_of_cell? w ⟨g, o + 0, none⟩ (h 0 _ rfl)
end Go.Proofs.Ytlinpefeojpjnaa.stm

/- What a law's argument is made of: a slice of statements reads as a list of statements. -/
namespace Go.Proofs.Ytlinpefeojpjnaa.opn
open Go.ChangeShapes Go.WideShapes Go.ChangeAt Go.RowKit Go.Joins Go.Deep Go.Proofs.Ytlinpefeojpjnaa.stm

end Go.Proofs.Ytlinpefeojpjnaa.opn
