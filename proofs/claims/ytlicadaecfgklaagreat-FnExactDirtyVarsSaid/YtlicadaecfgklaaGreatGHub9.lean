/- Several texts in one: Open OpenB OpenP. -/
import Derived.Test.YtlicadaecfgklaaGreatRows
import Derived.WalkKit
import Derived.ProofKit
import Derived.OpenShut
import Derived.Lib.SmallJoins
import Derived.Test.YtlicadaecfgklaaGreatGHub3
import Derived.Deep.Slices
import Derived.Test.YtlicadaecfgklaaGreatGHub5

/- What a law's argument is made of, by its type: a struct of numbers is its fields. -/
namespace Go.Proofs.YtlicadaecfgklaaGreat.opn
open Go.ChangeShapes Go.WideShapes Go.ChangeAt Go.RowKit Go.Joins Go.Deep

/-- An expression that came in: three numbers. -/
def IsExpr (_ : World) (v : Value) : Prop := ∃ o a b : Int, v = .agg #[.int .i64 o, .int .i64 a, .int .i64 b] ∧ (Lit.int .i64 o).wf = true ∧ (Lit.int .i64 a).wf = true ∧ (Lit.int .i64 b).wf = true
set_option maxRecDepth 100000 in
theorem open_Expr {H : Type} {enc : TypeId × Value → H} {w w' : World} {base : Nat} {spare : Nat → Bool} {held : Bool} {r : Reach} {b0 : Nat} {v : Value} {d : DataW H} {p : List MemPlace}
    (hv : Value.okWide Tryz.prog w r b0 56 v) (h : DataW.Trod enc Tryz.prog w base spare held 56 v d p) : IsExpr w' v := by
  obtain ⟨v0, v1, v2, y0, y1, y2, n, rfl, _, _, h0, h1, h2⟩ := open_agg3 Tryz.underlying56 (by kernel_rfl) (by kernel_rfl) hv h
  obtain ⟨o, e0, _, w0⟩ := DataW.trod_int Tryz.underlying3 h0
  obtain ⟨a, e1, _, w1⟩ := DataW.trod_int Tryz.underlying3 h1
  obtain ⟨b, e2, _, w2⟩ := DataW.trod_int Tryz.underlying3 h2
  simp at e0 e1 e2
  subst e0 e1 e2
  exact ⟨o, a, b, rfl, w0, w1, w2⟩
/-- A statement that came in: six numbers. -/
def IsStmt (_ : World) (v : Value) : Prop := ∃ k x n o a b : Int, v = .agg #[.int .i64 k, .int .i64 x, .int .i64 n, .int .i64 o, .int .i64 a, .int .i64 b] ∧
  (Lit.int .i64 k).wf = true ∧ (Lit.int .i64 x).wf = true ∧ (Lit.int .i64 n).wf = true ∧ (Lit.int .i64 o).wf = true ∧ (Lit.int .i64 a).wf = true ∧ (Lit.int .i64 b).wf = true
set_option maxRecDepth 100000 in
theorem open_Stmt {H : Type} {enc : TypeId × Value → H} {w w' : World} {base : Nat} {spare : Nat → Bool} {held : Bool} {r : Reach} {b0 : Nat} {v : Value} {d : DataW H} {p : List MemPlace}
    (hv : Value.okWide Tryz.prog w r b0 105 v) (h : DataW.Trod enc Tryz.prog w base spare held 105 v d p) : IsStmt w' v := by
  obtain ⟨⟨cs⟩, rfl, hsz⟩ := okWide_struct Tryz.underlying105 hv
  obtain ⟨fuel, hf⟩ := h
  have hC : Tryz.prog.cellsOf 105 = 6 := by kernel_rfl
  have hI : Tryz.prog.cellsOf 3 = 1 := by kernel_rfl
  have hE : Tryz.prog.cellsOf 56 = 3 := by kernel_rfl
  rw [hC] at hsz
  match cs, hsz, hf with
  | [c0, c1, c2, c3, c4, c5], _, hf =>
    obtain ⟨y0, y1, y2, y3, m, _, _, h0, h1, h2, h3⟩ := trod_struct4 Tryz.underlying105 hf
    simp [Value.cells, hI, hE] at h0 h1 h2 h3
    obtain ⟨z0, z1, z2, m2, _, _, h4, h5, h6⟩ := trod_struct3 Tryz.underlying56 h3
    simp [hI] at h4 h5 h6
    obtain ⟨k, e0, _, w0⟩ := DataW.trod_int Tryz.underlying3 h0
    obtain ⟨x, e1, _, w1⟩ := DataW.trod_int Tryz.underlying3 h1
    obtain ⟨n, e2, _, w2⟩ := DataW.trod_int Tryz.underlying3 h2
    obtain ⟨o, e3, _, w3⟩ := DataW.trod_int Tryz.underlying3 h4
    obtain ⟨a, e4, _, w4⟩ := DataW.trod_int Tryz.underlying3 h5
    obtain ⟨b, e5, _, w5⟩ := DataW.trod_int Tryz.underlying3 h6
    simp at e0 e1 e2 e3 e4 e5
    subst e0 e1 e2 e3 e4 e5
    exact ⟨k, x, n, o, a, b, rfl, w0, w1, w2, w3, w4, w5⟩
end Go.Proofs.YtlicadaecfgklaaGreat.opn

/- What a law's argument is made of: a slice of statements reads as a list of statements. -/
namespace Go.Proofs.YtlicadaecfgklaaGreat.opn
open Go.ChangeShapes Go.WideShapes Go.ChangeAt Go.RowKit Go.Joins Go.Deep Go.Proofs.YtlicadaecfgklaaGreat.stm

/-- A row of statements that came in. -/
def IsStmts (w : World) (v : Value) : Prop := ∃ (a : Option Addr) (len cap : Nat) (L : List St), v = .slice a len cap ∧ len ≤ maxLen ∧ StRow w a len L
theorem list_of {P : Nat → St → Prop} : ∀ n, (∀ i, i < n → ∃ s, P i s) → ∃ L : List St, L.length = n ∧ ∀ i s, L[i]? = some s → P i s
  | 0, _ => ⟨[], rfl, fun i s h => by simp at h⟩
  | n + 1, h => by
    obtain ⟨L, hl, hL⟩ := list_of n (fun i hi => h i (by omega))
    obtain ⟨s, hs⟩ := h n (by omega)
    refine ⟨L ++ [s], by simp [hl], fun i t ht => ?_⟩
    by_cases hi : i < L.length
    · rw [List.getElem?_append_left hi] at ht; exact hL i t ht
    · have hil := (List.getElem?_eq_some_iff.1 ht).1
      simp at hil
      obtain rfl : i = n := by omega
      rw [List.getElem?_append_right (by omega), hl, Nat.sub_self] at ht
      simp at ht; subst ht; exact hs
set_option maxRecDepth 100000 in
theorem open_Stmts {H : Type} {enc : TypeId × Value → H} {w : World} {base : Nat} {spare : Nat → Bool} {held : Bool} {r : Reach} {b0 : Nat} {v : Value} {d : DataW H} {p : List MemPlace}
    (hv : Value.okWide Tryz.prog w r b0 55 v) (h : DataW.Trod enc Tryz.prog w base spare held 55 v d p) : IsStmts w v := by
  obtain ⟨a, len, cap, rfl⟩ := okWide_slice Tryz.underlying55 hv
  obtain ⟨fuel, hf⟩ := h
  have hI : Tryz.prog.cellsOf 3 = 1 := by kernel_rfl
  have hE : Tryz.prog.cellsOf 56 = 3 := by kernel_rfl
  have hS : Tryz.prog.cellsOf 105 = 6 := by kernel_rfl
  rcases open_slice Tryz.underlying55 hf with ⟨hcs, _⟩ | ⟨x, l, c, m, n, D, Pl, hcs, _, hl, hm, hmm, _, hx⟩
  · simp [Value.cells] at hcs
    obtain ⟨rfl, rfl, rfl⟩ := hcs
    exact ⟨none, 0, 0, [], rfl, Nat.zero_le _, StRow.nil _ _⟩
  · simp [Value.cells] at hcs
    obtain ⟨rfl, rfl, rfl⟩ := hcs
    have hlm : len ≤ m := by rw [hmm]; split <;> omega
    have each : ∀ i, i < len → ∃ s : St, ∀ j t, (stC s)[j]? = some t → w.cell? (x.add (i * 6 + j)) = some t := by
      intro i hi
      obtain ⟨cs, h1, h2⟩ := hx i (by omega)
      rw [hS] at h1
      obtain ⟨_, hlen, hcell⟩ := World.cells?_some h1
      match cs, hlen, h2, hcell with
      | [c0, c1, c2, c3, c4, c5], _, h2, hcell =>
        obtain ⟨y0, y1, y2, y3, m2, _, _, h0, h1', h2', h3⟩ := trod_struct4 Tryz.underlying105 h2
        simp [hI, hE] at h0 h1' h2' h3
        obtain ⟨z0, z1, z2, m3, _, _, h4, h5, h6⟩ := trod_struct3 Tryz.underlying56 h3
        simp [hI] at h4 h5 h6
        obtain ⟨k, e0, _, _⟩ := DataW.trod_int Tryz.underlying3 h0
        obtain ⟨v, e1, _, _⟩ := DataW.trod_int Tryz.underlying3 h1'
        obtain ⟨n', e2, _, _⟩ := DataW.trod_int Tryz.underlying3 h2'
        obtain ⟨o, e3, _, _⟩ := DataW.trod_int Tryz.underlying3 h4
        obtain ⟨a', e4, _, _⟩ := DataW.trod_int Tryz.underlying3 h5
        obtain ⟨b', e5, _, _⟩ := DataW.trod_int Tryz.underlying3 h6
        simp at e0 e1 e2 e3 e4 e5
        subst e0 e1 e2 e3 e4 e5
        refine ⟨⟨k, v, n', o, a', b'⟩, fun j t ht => ?_⟩
        have hj : j < 6 := by have := (List.getElem?_eq_some_iff.1 ht).1; simpa [stC] using this
        have := hcell j hj
        rw [add_add] at this
        rw [this]; exact ht
    obtain ⟨L, hL, hLs⟩ := list_of (P := fun i s => ∀ j t, (stC s)[j]? = some t → w.cell? (x.add (i * 6 + j)) = some t) len each
    refine ⟨some x, len, cap, L, rfl, by omega, hL, fun k hk => ?_⟩
    have hkL : k < L.length := by omega
    have h0L : 0 < L.length := by omega
    have hs : L[k]? = some L[k] := by simp [hkL]
    have hc := hLs k _ hs
    have hc00 := hLs 0 L[0] (by simp) 0 _ rfl
    obtain ⟨b, off, spot⟩ := x
    have hspot : spot = none := by simpa [Addr.add] using World.cell?_spot hc00
    subst hspot
    refine ⟨b, off, L[k], rfl, ?_, hs, fun j t ht => ?_⟩
    · have h0 := hc 0 _ rfl
      rw [Go.WideShapes.add_plain] at h0
      exact World.block_lt_of_cell? w _ h0
    · have h0 := hc j t ht
      rw [Go.WideShapes.add_plain, ← Nat.add_assoc] at h0
      exact h0
end Go.Proofs.YtlicadaecfgklaaGreat.opn

/- What a law's argument is made of: a program is a slice of tasks, each with a slice of statements. -/
namespace Go.Proofs.YtlicadaecfgklaaGreat.opn
open Go.ChangeShapes Go.WideShapes Go.ChangeAt Go.RowKit Go.Joins Go.Deep Go.Proofs.YtlicadaecfgklaaGreat.stm Go.Proofs.YtlicadaecfgklaaGreat.prg

theorem list_ofG {α : Type} {P : Nat → α → Prop} : ∀ n, (∀ i, i < n → ∃ s, P i s) → ∃ L : List α, L.length = n ∧ ∀ i s, L[i]? = some s → P i s
  | 0, _ => ⟨[], rfl, fun i s h => by simp at h⟩
  | n + 1, h => by
    obtain ⟨L, hl, hL⟩ := list_ofG n (fun i hi => h i (by omega))
    obtain ⟨s, hs⟩ := h n (by omega)
    refine ⟨L ++ [s], by simp [hl], fun i t ht => ?_⟩
    by_cases hi : i < L.length
    · rw [List.getElem?_append_left hi] at ht; exact hL i t ht
    · have hil := (List.getElem?_eq_some_iff.1 ht).1
      simp at hil
      obtain rfl : i = n := by omega
      rw [List.getElem?_append_right (by omega), hl, Nat.sub_self] at ht
      simp at ht; subst ht; exact hs
set_option maxRecDepth 100000 in
/-- One cell that reads as a slice of statements. -/
theorem stmts_trod {H : Type} {enc : TypeId × Value → H} {w : World} {base : Nat} {spare : Nat → Bool} {held : Bool} {fuel : Nat} {c : Value} {x : DataW H × List MemPlace}
    (hf : DataW.trod enc Tryz.prog w base spare held fuel 55 [c] = some x) : ∃ (a : Option Addr) (len cap : Nat) (L : List St), c = .slice a len cap ∧ len ≤ cap ∧ len ≤ maxLen ∧ StRow w a len L := by
  have hI : Tryz.prog.cellsOf 3 = 1 := by kernel_rfl
  have hE : Tryz.prog.cellsOf 56 = 3 := by kernel_rfl
  have hS : Tryz.prog.cellsOf 105 = 6 := by kernel_rfl
  rcases open_slice Tryz.underlying55 hf with ⟨hcs, _⟩ | ⟨x, l, c', m, n, D, Pl, hcs, _, hl, hm, hmm, _, hx⟩
  · simp at hcs
    subst hcs
    exact ⟨none, 0, 0, [], rfl, Nat.le_refl _, Nat.zero_le _, StRow.nil _ _⟩
  · simp at hcs
    subst hcs
    have hlm : l ≤ m := by rw [hmm]; split <;> omega
    have each : ∀ i, i < l → ∃ s : St, ∀ j t, (stC s)[j]? = some t → w.cell? (x.add (i * 6 + j)) = some t := by
      intro i hi
      obtain ⟨cs, h1, h2⟩ := hx i (by omega)
      rw [hS] at h1
      obtain ⟨_, hlen, hcell⟩ := World.cells?_some h1
      match cs, hlen, h2, hcell with
      | [c0, c1, c2, c3, c4, c5], _, h2, hcell =>
        obtain ⟨y0, y1, y2, y3, m2, _, _, h0, h1', h2', h3⟩ := trod_struct4 Tryz.underlying105 h2
        simp [hI, hE] at h0 h1' h2' h3
        obtain ⟨z0, z1, z2, m3, _, _, h4, h5, h6⟩ := trod_struct3 Tryz.underlying56 h3
        simp [hI] at h4 h5 h6
        obtain ⟨k, e0, _, _⟩ := DataW.trod_int Tryz.underlying3 h0
        obtain ⟨v, e1, _, _⟩ := DataW.trod_int Tryz.underlying3 h1'
        obtain ⟨n', e2, _, _⟩ := DataW.trod_int Tryz.underlying3 h2'
        obtain ⟨o, e3, _, _⟩ := DataW.trod_int Tryz.underlying3 h4
        obtain ⟨a', e4, _, _⟩ := DataW.trod_int Tryz.underlying3 h5
        obtain ⟨b', e5, _, _⟩ := DataW.trod_int Tryz.underlying3 h6
        simp at e0 e1 e2 e3 e4 e5
        subst e0 e1 e2 e3 e4 e5
        refine ⟨⟨k, v, n', o, a', b'⟩, fun j t ht => ?_⟩
        have hj : j < 6 := by have := (List.getElem?_eq_some_iff.1 ht).1; simpa [stC] using this
        have := hcell j hj
        rw [add_add] at this
        rw [this]; exact ht
    obtain ⟨L, hL, hLs⟩ := list_ofG (P := fun i s => ∀ j t, (stC s)[j]? = some t → w.cell? (x.add (i * 6 + j)) = some t) l each
    refine ⟨some x, l, c', L, rfl, hl, by omega, hL, fun k hk => ?_⟩
    have hkL : k < L.length := by omega
    have h0L : 0 < L.length := by omega
    have hs : L[k]? = some L[k] := by simp [hkL]
    have hc := hLs k _ hs
    have hc00 := hLs 0 L[0] (by simp) 0 _ rfl
    obtain ⟨b, off, spot⟩ := x
    have hspot : spot = none := by simpa [Addr.add] using World.cell?_spot hc00
    subst hspot
    refine ⟨b, off, L[k], rfl, ?_, hs, fun j t ht => ?_⟩
    · have h0 := hc 0 _ rfl
      rw [Go.WideShapes.add_plain] at h0
      exact World.block_lt_of_cell? w _ h0
    · have h0 := hc j t ht
      rw [Go.WideShapes.add_plain, ← Nat.add_assoc] at h0
      exact h0
set_option maxRecDepth 100000 in
/-- One cell that reads as a slice of tasks. -/
theorem tasks_trod {H : Type} {enc : TypeId × Value → H} {w : World} {base : Nat} {spare : Nat → Bool} {held : Bool} {fuel : Nat} {c : Value} {x : DataW H × List MemPlace}
    (hf : DataW.trod enc Tryz.prog w base spare held fuel 22 [c] = some x) : ∃ (a : Option Addr) (len cap : Nat) (P : List Tk), c = .slice a len cap ∧ len ≤ cap ∧ len ≤ maxLen ∧ (∀ t ∈ P, t.b.length ≤ maxLen) ∧ TkRow w a len P := by
  have hI : Tryz.prog.cellsOf 3 = 1 := by kernel_rfl
  have hE : Tryz.prog.cellsOf 56 = 3 := by kernel_rfl
  have hL : Tryz.prog.cellsOf 55 = 1 := by kernel_rfl
  have hT : Tryz.prog.cellsOf 58 = 4 := by kernel_rfl
  rcases open_slice Tryz.underlying22 hf with ⟨hcs, _⟩ | ⟨x, l, c', m, n, D, Pl, hcs, _, hl, hm, hmm, _, hx⟩
  · simp at hcs
    subst hcs
    exact ⟨none, 0, 0, [], rfl, Nat.le_refl _, Nat.zero_le _, fun t ht => (by cases ht), TkRow.nil _ _⟩
  · simp at hcs
    subst hcs
    have hlm : l ≤ m := by rw [hmm]; split <;> omega
    have each : ∀ i, i < l → ∃ t : Tk, ∃ (ab : Option Addr) (nb cb : Nat), (∀ j v, (tkC ab nb cb t)[j]? = some v → w.cell? (x.add (i * 4 + j)) = some v) ∧ nb ≤ cb ∧ nb ≤ maxLen ∧ StRow w ab nb t.b := by
      intro i hi
      obtain ⟨cs, h1, h2⟩ := hx i (by omega)
      rw [hT] at h1
      obtain ⟨_, hlen, hcell⟩ := World.cells?_some h1
      match cs, hlen, h2, hcell with
      | [c0, c1, c2, c3], _, h2, hcell =>
        obtain ⟨y0, y1, m2, _, _, h0, h3⟩ := trod_struct2 Tryz.underlying58 h2
        simp [hL, hE] at h0 h3
        obtain ⟨z0, z1, z2, m3, _, _, h4, h5, h6⟩ := trod_struct3 Tryz.underlying56 h3
        simp [hI] at h4 h5 h6
        obtain ⟨ab, nb, cb, B, e0, hbc, hbm, hB⟩ := stmts_trod h0
        obtain ⟨o, e3, _, _⟩ := DataW.trod_int Tryz.underlying3 h4
        obtain ⟨a', e4, _, _⟩ := DataW.trod_int Tryz.underlying3 h5
        obtain ⟨b', e5, _, _⟩ := DataW.trod_int Tryz.underlying3 h6
        simp at e3 e4 e5
        subst e0 e3 e4 e5
        refine ⟨⟨B, o, a', b'⟩, ab, nb, cb, fun j t ht => ?_, hbc, hbm, hB⟩
        have hj : j < 4 := by have := (List.getElem?_eq_some_iff.1 ht).1; simpa [tkC] using this
        have := hcell j hj
        rw [add_add] at this
        rw [this]; exact ht
    obtain ⟨L, hL, hLs⟩ := list_ofG (P := fun i t => ∃ (ab : Option Addr) (nb cb : Nat), (∀ j v, (tkC ab nb cb t)[j]? = some v → w.cell? (x.add (i * 4 + j)) = some v) ∧ nb ≤ cb ∧ nb ≤ maxLen ∧ StRow w ab nb t.b) l each
    refine ⟨some x, l, c', L, rfl, hl, by omega, fun t ht => ?_, hL, fun k hk => ?_⟩
    · obtain ⟨j, hj⟩ := List.mem_iff_getElem?.1 ht
      obtain ⟨_, nb, _, _, _, hnb, hB⟩ := hLs j t hj
      rw [hB.1]; exact hnb
    have hkL : k < L.length := by omega
    have h0L : 0 < L.length := by omega
    have hs : L[k]? = some L[k] := by simp [hkL]
    obtain ⟨ab, nb, cb, hc, hbc, _, hB⟩ := hLs k _ hs
    obtain ⟨ab0, nb0, cb0, hc0, _⟩ := hLs 0 L[0] (by simp)
    have hc00 := hc0 0 _ rfl
    obtain ⟨b, off, spot⟩ := x
    have hspot : spot = none := by simpa [Addr.add] using World.cell?_spot hc00
    subst hspot
    refine ⟨b, off, L[k], rfl, ?_, hs, ab, nb, cb, fun j t ht => ?_, hbc, hB⟩
    · have h0 := hc 0 _ rfl
      rw [Go.WideShapes.add_plain] at h0
      exact World.block_lt_of_cell? w _ h0
    · have h0 := hc j t ht
      rw [Go.WideShapes.add_plain, ← Nat.add_assoc] at h0
      exact h0
/-- A task that came in. -/
def IsTaskV (w : World) (v : Value) : Prop := ∃ (ab : Option Addr) (nb cb : Nat) (t : Tk), v = tkV ab nb cb t ∧ nb ≤ maxLen ∧ StRow w ab nb t.b
set_option maxRecDepth 100000 in
theorem open_Task {H : Type} {enc : TypeId × Value → H} {w : World} {base : Nat} {spare : Nat → Bool} {held : Bool} {r : Reach} {b0 : Nat} {v : Value} {d : DataW H} {p : List MemPlace}
    (hv : Value.okWide Tryz.prog w r b0 58 v) (h : DataW.Trod enc Tryz.prog w base spare held 58 v d p) : IsTaskV w v := by
  obtain ⟨⟨cs⟩, rfl, hsz⟩ := okWide_struct Tryz.underlying58 hv
  obtain ⟨fuel, hf⟩ := h
  have hI : Tryz.prog.cellsOf 3 = 1 := by kernel_rfl
  have hE : Tryz.prog.cellsOf 56 = 3 := by kernel_rfl
  have hL : Tryz.prog.cellsOf 55 = 1 := by kernel_rfl
  have hC : Tryz.prog.cellsOf 58 = 4 := by kernel_rfl
  rw [hC] at hsz
  match cs, hsz, hf with
  | [c0, c1, c2, c3], _, hf =>
    obtain ⟨y0, y1, m2, _, _, h0, h3⟩ := trod_struct2 Tryz.underlying58 hf
    simp [Value.cells, hL, hE] at h0 h3
    obtain ⟨z0, z1, z2, m3, _, _, h4, h5, h6⟩ := trod_struct3 Tryz.underlying56 h3
    simp [hI] at h4 h5 h6
    obtain ⟨ab, nb, cb, B, e0, _, hbm, hB⟩ := stmts_trod h0
    obtain ⟨o, e3, _, _⟩ := DataW.trod_int Tryz.underlying3 h4
    obtain ⟨a', e4, _, _⟩ := DataW.trod_int Tryz.underlying3 h5
    obtain ⟨b', e5, _, _⟩ := DataW.trod_int Tryz.underlying3 h6
    simp at e3 e4 e5
    subst e0 e3 e4 e5
    exact ⟨ab, nb, cb, ⟨B, o, a', b'⟩, rfl, hbm, hB⟩
/-- A program that came in. -/
def IsPrgV (w : World) (v : Value) : Prop := ∃ (a : Option Addr) (len cap : Nat) (P : List Tk), v = .agg #[.slice a len cap] ∧ len ≤ maxLen ∧ (∀ t ∈ P, t.b.length ≤ maxLen) ∧ TkRow w a len P
set_option maxRecDepth 100000 in
theorem open_Program {H : Type} {enc : TypeId × Value → H} {w : World} {base : Nat} {spare : Nat → Bool} {held : Bool} {r : Reach} {b0 : Nat} {v : Value} {d : DataW H} {p : List MemPlace}
    (hv : Value.okWide Tryz.prog w r b0 24 v) (h : DataW.Trod enc Tryz.prog w base spare held 24 v d p) : IsPrgV w v := by
  obtain ⟨⟨cs⟩, rfl, hsz⟩ := okWide_struct Tryz.underlying24 hv
  obtain ⟨fuel, hf⟩ := h
  have hC : Tryz.prog.cellsOf 24 = 1 := by kernel_rfl
  have hT : Tryz.prog.cellsOf 22 = 1 := by kernel_rfl
  rw [hC] at hsz
  match cs, hsz, hf with
  | [c0], _, hf =>
    obtain ⟨y0, m, _, _, h0⟩ := trod_struct1 Tryz.underlying24 hf
    simp [Value.cells, hT] at h0
    obtain ⟨a, len, cap, P, rfl, _, h1, h2, h3⟩ := tasks_trod h0
    exact ⟨a, len, cap, P, rfl, h1, h2, h3⟩
end Go.Proofs.YtlicadaecfgklaaGreat.opn
