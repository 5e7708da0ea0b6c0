/- Several texts in one: Open OpenB OpenP ReadA SetA. -/
import Derived.Test.YtekdnhhmiabngaaGreatRows
import Derived.WalkKit
import Derived.ProofKit
import Derived.OpenShut
import Derived.Lib.SmallJoins
import Derived.Test.YtekdnhhmiabngaaGreatGHub2
import Derived.Deep.Slices
import Derived.Test.YtekdnhhmiabngaaGreatGHub3
import Derived.Lib.SlicesCompact

/- What a law's argument is made of, by its type: a struct of numbers is its fields. -/
namespace Go.Proofs.YtekdnhhmiabngaaGreat.opn
open Go.ChangeShapes Go.WideShapes Go.ChangeAt Go.RowKit Go.Joins Go.Deep

/-- An expression that came in: three numbers. -/
def IsExpr (_ : World) (v : Value) : Prop := ∃ o a b : Int, v = .agg #[.int .i64 o, .int .i64 a, .int .i64 b] ∧ (Lit.int .i64 o).wf = true ∧ (Lit.int .i64 a).wf = true ∧ (Lit.int .i64 b).wf = true
set_option maxRecDepth 100000 in
theorem open_Expr {H : Type} {enc : TypeId × Value → H} {w w' : World} {base : Nat} {spare : Nat → Bool} {held : Bool} {r : Reach} {b0 : Nat} {v : Value} {d : DataW H} {p : List MemPlace}
    (hv : Value.okWide Tryz.prog w r b0 134 v) (h : DataW.Trod enc Tryz.prog w base spare held 134 v d p) : IsExpr w' v := by
  obtain ⟨v0, v1, v2, y0, y1, y2, n, rfl, _, _, h0, h1, h2⟩ := open_agg3 Tryz.underlying134 (by kernel_rfl) (by kernel_rfl) hv h
  obtain ⟨o, e0, _, w0⟩ := DataW.trod_int Tryz.underlying3 h0
  obtain ⟨a, e1, _, w1⟩ := DataW.trod_int Tryz.underlying3 h1
  obtain ⟨b, e2, _, w2⟩ := DataW.trod_int Tryz.underlying3 h2
  simp at e0 e1 e2
  subst e0 e1 e2
  exact ⟨o, a, b, rfl, w0, w1, w2⟩
/-- A statement that came in: six numbers. -/
def IsStmt (_ : World) (v : Value) : Prop := ∃ k x n o a b : Int, v = .agg #[.int .i64 k, .int .i64 x, .int .i64 n, .int .i64 o, .int .i64 a, .int .i64 b] ∧
  (Lit.int .i64 k).wf = true ∧ (Lit.int .i64 x).wf = true ∧ (Lit.int .i64 n).wf = true ∧ (Lit.int .i64 o).wf = true ∧ (Lit.int .i64 a).wf = true ∧ (Lit.int .i64 b).wf = true
set_option maxRecDepth 100000 in
theorem open_Stmt {H : Type} {enc : TypeId × Value → H} {w w' : World} {base : Nat} {spare : Nat → Bool} {held : Bool} {r : Reach} {b0 : Nat} {v : Value} {d : DataW H} {p : List MemPlace}
    (hv : Value.okWide Tryz.prog w r b0 180 v) (h : DataW.Trod enc Tryz.prog w base spare held 180 v d p) : IsStmt w' v := by
  obtain ⟨⟨cs⟩, rfl, hsz⟩ := okWide_struct Tryz.underlying180 hv
  obtain ⟨fuel, hf⟩ := h
  have hC : Tryz.prog.cellsOf 180 = 6 := by kernel_rfl
  have hI : Tryz.prog.cellsOf 3 = 1 := by kernel_rfl
  have hE : Tryz.prog.cellsOf 134 = 3 := by kernel_rfl
  rw [hC] at hsz
  match cs, hsz, hf with
  | [c0, c1, c2, c3, c4, c5], _, hf =>
    obtain ⟨y0, y1, y2, y3, m, _, _, h0, h1, h2, h3⟩ := trod_struct4 Tryz.underlying180 hf
    simp [Value.cells, hI, hE] at h0 h1 h2 h3
    obtain ⟨z0, z1, z2, m2, _, _, h4, h5, h6⟩ := trod_struct3 Tryz.underlying134 h3
    simp [hI] at h4 h5 h6
    obtain ⟨k, e0, _, w0⟩ := DataW.trod_int Tryz.underlying3 h0
    obtain ⟨x, e1, _, w1⟩ := DataW.trod_int Tryz.underlying3 h1
    obtain ⟨n, e2, _, w2⟩ := DataW.trod_int Tryz.underlying3 h2
    obtain ⟨o, e3, _, w3⟩ := DataW.trod_int Tryz.underlying3 h4
    obtain ⟨a, e4, _, w4⟩ := DataW.trod_int Tryz.underlying3 h5
    obtain ⟨b, e5, _, w5⟩ := DataW.trod_int Tryz.underlying3 h6
    simp at e0 e1 e2 e3 e4 e5
    subst e0 e1 e2 e3 e4 e5
    exact ⟨k, x, n, o, a, b, rfl, w0, w1, w2, w3, w4, w5⟩
end Go.Proofs.YtekdnhhmiabngaaGreat.opn

/- What a law's argument is made of: a slice of statements reads as a list of statements. -/
namespace Go.Proofs.YtekdnhhmiabngaaGreat.opn
open Go.ChangeShapes Go.WideShapes Go.ChangeAt Go.RowKit Go.Joins Go.Deep Go.Proofs.YtekdnhhmiabngaaGreat.stm

/-- A row of statements that came in. -/
def IsStmts (w : World) (v : Value) : Prop := ∃ (a : Option Addr) (len cap : Nat) (L : List St), v = .slice a len cap ∧ len ≤ maxLen ∧ StRow w a len L
theorem list_of {P : Nat → St → Prop} : ∀ n, (∀ i, i < n → ∃ s, P i s) → ∃ L : List St, L.length = n ∧ ∀ i s, L[i]? = some s → P i s
  | 0, _ => ⟨[], rfl, fun i s h => by simp at h⟩
  | n + 1, h => by
    obtain ⟨L, hl, hL⟩ := list_of n (fun i hi => h i (by omega))
    obtain ⟨s, hs⟩ := h n (by omega)
    refine ⟨L ++ [s], by simp [hl], fun i t ht => ?_⟩
    by_cases hi : i < L.length
    · rw [List.getElem?_append_left hi] at ht; exact hL i t ht
    · have hil := (List.getElem?_eq_some_iff.1 ht).1
      simp at hil
      obtain rfl : i = n := by omega
      rw [List.getElem?_append_right (by omega), hl, Nat.sub_self] at ht
      simp at ht; subst ht; exact hs
set_option maxRecDepth 100000 in
theorem open_Stmts {H : Type} {enc : TypeId × Value → H} {w : World} {base : Nat} {spare : Nat → Bool} {held : Bool} {r : Reach} {b0 : Nat} {v : Value} {d : DataW H} {p : List MemPlace}
    (hv : Value.okWide Tryz.prog w r b0 133 v) (h : DataW.Trod enc Tryz.prog w base spare held 133 v d p) : IsStmts w v := by
  obtain ⟨a, len, cap, rfl⟩ := okWide_slice Tryz.underlying133 hv
  obtain ⟨fuel, hf⟩ := h
  have hI : Tryz.prog.cellsOf 3 = 1 := by kernel_rfl
  have hE : Tryz.prog.cellsOf 134 = 3 := by kernel_rfl
  have hS : Tryz.prog.cellsOf 180 = 6 := by kernel_rfl
  rcases open_slice Tryz.underlying133 hf with ⟨hcs, _⟩ | ⟨x, l, c, m, n, D, Pl, hcs, _, hl, hm, hmm, _, hx⟩
  · simp [Value.cells] at hcs
    obtain ⟨rfl, rfl, rfl⟩ := hcs
    exact ⟨none, 0, 0, [], rfl, Nat.zero_le _, StRow.nil _ _⟩
  · simp [Value.cells] at hcs
    obtain ⟨rfl, rfl, rfl⟩ := hcs
    have hlm : len ≤ m := by rw [hmm]; split <;> omega
    have each : ∀ i, i < len → ∃ s : St, ∀ j t, (stC s)[j]? = some t → w.cell? (x.add (i * 6 + j)) = some t := by
      intro i hi
      obtain ⟨cs, h1, h2⟩ := hx i (by omega)
      rw [hS] at h1
      obtain ⟨_, hlen, hcell⟩ := World.cells?_some h1
      match cs, hlen, h2, hcell with
      | [c0, c1, c2, c3, c4, c5], _, h2, hcell =>
        obtain ⟨y0, y1, y2, y3, m2, _, _, h0, h1', h2', h3⟩ := trod_struct4 Tryz.underlying180 h2
        simp [hI, hE] at h0 h1' h2' h3
        obtain ⟨z0, z1, z2, m3, _, _, h4, h5, h6⟩ := trod_struct3 Tryz.underlying134 h3
        simp [hI] at h4 h5 h6
        obtain ⟨k, e0, _, _⟩ := DataW.trod_int Tryz.underlying3 h0
        obtain ⟨v, e1, _, _⟩ := DataW.trod_int Tryz.underlying3 h1'
        obtain ⟨n', e2, _, _⟩ := DataW.trod_int Tryz.underlying3 h2'
        obtain ⟨o, e3, _, _⟩ := DataW.trod_int Tryz.underlying3 h4
        obtain ⟨a', e4, _, _⟩ := DataW.trod_int Tryz.underlying3 h5
        obtain ⟨b', e5, _, _⟩ := DataW.trod_int Tryz.underlying3 h6
        simp at e0 e1 e2 e3 e4 e5
        subst e0 e1 e2 e3 e4 e5
        refine ⟨⟨k, v, n', o, a', b'⟩, fun j t ht => ?_⟩
        have hj : j < 6 := by have := (List.getElem?_eq_some_iff.1 ht).1; simpa [stC] using this
        have := hcell j hj
        rw [add_add] at this
        rw [this]; exact ht
    obtain ⟨L, hL, hLs⟩ := list_of (P := fun i s => ∀ j t, (stC s)[j]? = some t → w.cell? (x.add (i * 6 + j)) = some t) len each
    refine ⟨some x, len, cap, L, rfl, by omega, hL, fun k hk => ?_⟩
    have hkL : k < L.length := by omega
    have h0L : 0 < L.length := by omega
    have hs : L[k]? = some L[k] := by simp [hkL]
    have hc := hLs k _ hs
    have hc00 := hLs 0 L[0] (by simp) 0 _ rfl
    obtain ⟨b, off, spot⟩ := x
    have hspot : spot = none := by simpa [Addr.add] using World.cell?_spot hc00
    subst hspot
    refine ⟨b, off, L[k], rfl, ?_, hs, fun j t ht => ?_⟩
    · have h0 := hc 0 _ rfl
      rw [Go.WideShapes.add_plain] at h0
      exact World.block_lt_of_cell? w _ h0
    · have h0 := hc j t ht
      rw [Go.WideShapes.add_plain, ← Nat.add_assoc] at h0
      exact h0
end Go.Proofs.YtekdnhhmiabngaaGreat.opn

/- What a law's argument is made of: a program is a slice of tasks, each with a slice of statements. -/
namespace Go.Proofs.YtekdnhhmiabngaaGreat.opn
open Go.ChangeShapes Go.WideShapes Go.ChangeAt Go.RowKit Go.Joins Go.Deep Go.Proofs.YtekdnhhmiabngaaGreat.stm Go.Proofs.YtekdnhhmiabngaaGreat.prg

theorem list_ofG {α : Type} {P : Nat → α → Prop} : ∀ n, (∀ i, i < n → ∃ s, P i s) → ∃ L : List α, L.length = n ∧ ∀ i s, L[i]? = some s → P i s
  | 0, _ => ⟨[], rfl, fun i s h => by simp at h⟩
  | n + 1, h => by
    obtain ⟨L, hl, hL⟩ := list_ofG n (fun i hi => h i (by omega))
    obtain ⟨s, hs⟩ := h n (by omega)
    refine ⟨L ++ [s], by simp [hl], fun i t ht => ?_⟩
    by_cases hi : i < L.length
    · rw [List.getElem?_append_left hi] at ht; exact hL i t ht
    · have hil := (List.getElem?_eq_some_iff.1 ht).1
      simp at hil
      obtain rfl : i = n := by omega
      rw [List.getElem?_append_right (by omega), hl, Nat.sub_self] at ht
      simp at ht; subst ht; exact hs
set_option maxRecDepth 100000 in
/-- One cell that reads as a slice of statements. -/
theorem stmts_trod {H : Type} {enc : TypeId × Value → H} {w : World} {base : Nat} {spare : Nat → Bool} {held : Bool} {fuel : Nat} {c : Value} {x : DataW H × List MemPlace}
    (hf : DataW.trod enc Tryz.prog w base spare held fuel 133 [c] = some x) : ∃ (a : Option Addr) (len cap : Nat) (L : List St), c = .slice a len cap ∧ len ≤ cap ∧ len ≤ maxLen ∧ StRow w a len L := by
  have hI : Tryz.prog.cellsOf 3 = 1 := by kernel_rfl
  have hE : Tryz.prog.cellsOf 134 = 3 := by kernel_rfl
  have hS : Tryz.prog.cellsOf 180 = 6 := by kernel_rfl
  rcases open_slice Tryz.underlying133 hf with ⟨hcs, _⟩ | ⟨x, l, c', m, n, D, Pl, hcs, _, hl, hm, hmm, _, hx⟩
  · simp at hcs
    subst hcs
    exact ⟨none, 0, 0, [], rfl, Nat.le_refl _, Nat.zero_le _, StRow.nil _ _⟩
  · simp at hcs
    subst hcs
    have hlm : l ≤ m := by rw [hmm]; split <;> omega
    have each : ∀ i, i < l → ∃ s : St, ∀ j t, (stC s)[j]? = some t → w.cell? (x.add (i * 6 + j)) = some t := by
      intro i hi
      obtain ⟨cs, h1, h2⟩ := hx i (by omega)
      rw [hS] at h1
      obtain ⟨_, hlen, hcell⟩ := World.cells?_some h1
      match cs, hlen, h2, hcell with
      | [c0, c1, c2, c3, c4, c5], _, h2, hcell =>
        obtain ⟨y0, y1, y2, y3, m2, _, _, h0, h1', h2', h3⟩ := trod_struct4 Tryz.underlying180 h2
        simp [hI, hE] at h0 h1' h2' h3
        obtain ⟨z0, z1, z2, m3, _, _, h4, h5, h6⟩ := trod_struct3 Tryz.underlying134 h3
        simp [hI] at h4 h5 h6
        obtain ⟨k, e0, _, _⟩ := DataW.trod_int Tryz.underlying3 h0
        obtain ⟨v, e1, _, _⟩ := DataW.trod_int Tryz.underlying3 h1'
        obtain ⟨n', e2, _, _⟩ := DataW.trod_int Tryz.underlying3 h2'
        obtain ⟨o, e3, _, _⟩ := DataW.trod_int Tryz.underlying3 h4
        obtain ⟨a', e4, _, _⟩ := DataW.trod_int Tryz.underlying3 h5
        obtain ⟨b', e5, _, _⟩ := DataW.trod_int Tryz.underlying3 h6
        simp at e0 e1 e2 e3 e4 e5
        subst e0 e1 e2 e3 e4 e5
        refine ⟨⟨k, v, n', o, a', b'⟩, fun j t ht => ?_⟩
        have hj : j < 6 := by have := (List.getElem?_eq_some_iff.1 ht).1; simpa [stC] using this
        have := hcell j hj
        rw [add_add] at this
        rw [this]; exact ht
    obtain ⟨L, hL, hLs⟩ := list_ofG (P := fun i s => ∀ j t, (stC s)[j]? = some t → w.cell? (x.add (i * 6 + j)) = some t) l each
    refine ⟨some x, l, c', L, rfl, hl, by omega, hL, fun k hk => ?_⟩
    have hkL : k < L.length := by omega
    have h0L : 0 < L.length := by omega
    have hs : L[k]? = some L[k] := by simp [hkL]
    have hc := hLs k _ hs
    have hc00 := hLs 0 L[0] (by simp) 0 _ rfl
    obtain ⟨b, off, spot⟩ := x
    have hspot : spot = none := by simpa [Addr.add] using World.cell?_spot hc00
    subst hspot
    refine ⟨b, off, L[k], rfl, ?_, hs, fun j t ht => ?_⟩
    · have h0 := hc 0 _ rfl
      rw [Go.WideShapes.add_plain] at h0
      exact World.block_lt_of_cell? w _ h0
    · have h0 := hc j t ht
      rw [Go.WideShapes.add_plain, ← Nat.add_assoc] at h0
      exact h0
set_option maxRecDepth 100000 in
/-- One cell that reads as a slice of tasks. -/
theorem tasks_trod {H : Type} {enc : TypeId × Value → H} {w : World} {base : Nat} {spare : Nat → Bool} {held : Bool} {fuel : Nat} {c : Value} {x : DataW H × List MemPlace}
    (hf : DataW.trod enc Tryz.prog w base spare held fuel 44 [c] = some x) : ∃ (a : Option Addr) (len cap : Nat) (P : List Tk), c = .slice a len cap ∧ len ≤ cap ∧ len ≤ maxLen ∧ (∀ t ∈ P, t.b.length ≤ maxLen) ∧ TkRow w a len P := by
  have hI : Tryz.prog.cellsOf 3 = 1 := by kernel_rfl
  have hE : Tryz.prog.cellsOf 134 = 3 := by kernel_rfl
  have hL : Tryz.prog.cellsOf 133 = 1 := by kernel_rfl
  have hT : Tryz.prog.cellsOf 136 = 4 := by kernel_rfl
  rcases open_slice Tryz.underlying44 hf with ⟨hcs, _⟩ | ⟨x, l, c', m, n, D, Pl, hcs, _, hl, hm, hmm, _, hx⟩
  · simp at hcs
    subst hcs
    exact ⟨none, 0, 0, [], rfl, Nat.le_refl _, Nat.zero_le _, fun t ht => (by cases ht), TkRow.nil _ _⟩
  · simp at hcs
    subst hcs
    have hlm : l ≤ m := by rw [hmm]; split <;> omega
    have each : ∀ i, i < l → ∃ t : Tk, ∃ (ab : Option Addr) (nb cb : Nat), (∀ j v, (tkC ab nb cb t)[j]? = some v → w.cell? (x.add (i * 4 + j)) = some v) ∧ nb ≤ cb ∧ nb ≤ maxLen ∧ StRow w ab nb t.b := by
      intro i hi
      obtain ⟨cs, h1, h2⟩ := hx i (by omega)
      rw [hT] at h1
      obtain ⟨_, hlen, hcell⟩ := World.cells?_some h1
      match cs, hlen, h2, hcell with
      | [c0, c1, c2, c3], _, h2, hcell =>
        obtain ⟨y0, y1, m2, _, _, h0, h3⟩ := trod_struct2 Tryz.underlying136 h2
        simp [hL, hE] at h0 h3
        obtain ⟨z0, z1, z2, m3, _, _, h4, h5, h6⟩ := trod_struct3 Tryz.underlying134 h3
        simp [hI] at h4 h5 h6
        obtain ⟨ab, nb, cb, B, e0, hbc, hbm, hB⟩ := stmts_trod h0
        obtain ⟨o, e3, _, _⟩ := DataW.trod_int Tryz.underlying3 h4
        obtain ⟨a', e4, _, _⟩ := DataW.trod_int Tryz.underlying3 h5
        obtain ⟨b', e5, _, _⟩ := DataW.trod_int Tryz.underlying3 h6
        simp at e3 e4 e5
        subst e0 e3 e4 e5
        refine ⟨⟨B, o, a', b'⟩, ab, nb, cb, fun j t ht => ?_, hbc, hbm, hB⟩
        have hj : j < 4 := by have := (List.getElem?_eq_some_iff.1 ht).1; simpa [tkC] using this
        have := hcell j hj
        rw [add_add] at this
        rw [this]; exact ht
    obtain ⟨L, hL, hLs⟩ := list_ofG (P := fun i t => ∃ (ab : Option Addr) (nb cb : Nat), (∀ j v, (tkC ab nb cb t)[j]? = some v → w.cell? (x.add (i * 4 + j)) = some v) ∧ nb ≤ cb ∧ nb ≤ maxLen ∧ StRow w ab nb t.b) l each
    refine ⟨some x, l, c', L, rfl, hl, by omega, fun t ht => ?_, hL, fun k hk => ?_⟩
    · obtain ⟨j, hj⟩ := List.mem_iff_getElem?.1 ht
      obtain ⟨_, nb, _, _, _, hnb, hB⟩ := hLs j t hj
      rw [hB.1]; exact hnb
    have hkL : k < L.length := by omega
    have h0L : 0 < L.length := by omega
    have hs : L[k]? = some L[k] := by simp [hkL]
    obtain ⟨ab, nb, cb, hc, hbc, _, hB⟩ := hLs k _ hs
    obtain ⟨ab0, nb0, cb0, hc0, _⟩ := hLs 0 L[0] (by simp)
    have hc00 := hc0 0 _ rfl
    obtain ⟨b, off, spot⟩ := x
    have hspot : spot = none := by simpa [Addr.add] using World.cell?_spot hc00
    subst hspot
    refine ⟨b, off, L[k], rfl, ?_, hs, ab, nb, cb, fun j t ht => ?_, hbc, hB⟩
    · have h0 := hc 0 _ rfl
      rw [Go.WideShapes.add_plain] at h0
      exact World.block_lt_of_cell? w _ h0
    · have h0 := hc j t ht
      rw [Go.WideShapes.add_plain, ← Nat.add_assoc] at h0
      exact h0
/-- A task that came in. -/
def IsTaskV (w : World) (v : Value) : Prop := ∃ (ab : Option Addr) (nb cb : Nat) (t : Tk), v = tkV ab nb cb t ∧ nb ≤ maxLen ∧ StRow w ab nb t.b
set_option maxRecDepth 100000 in
theorem open_Task {H : Type} {enc : TypeId × Value → H} {w : World} {base : Nat} {spare : Nat → Bool} {held : Bool} {r : Reach} {b0 : Nat} {v : Value} {d : DataW H} {p : List MemPlace}
    (hv : Value.okWide Tryz.prog w r b0 136 v) (h : DataW.Trod enc Tryz.prog w base spare held 136 v d p) : IsTaskV w v := by
  obtain ⟨⟨cs⟩, rfl, hsz⟩ := okWide_struct Tryz.underlying136 hv
  obtain ⟨fuel, hf⟩ := h
  have hI : Tryz.prog.cellsOf 3 = 1 := by kernel_rfl
  have hE : Tryz.prog.cellsOf 134 = 3 := by kernel_rfl
  have hL : Tryz.prog.cellsOf 133 = 1 := by kernel_rfl
  have hC : Tryz.prog.cellsOf 136 = 4 := by kernel_rfl
  rw [hC] at hsz
  match cs, hsz, hf with
  | [c0, c1, c2, c3], _, hf =>
    obtain ⟨y0, y1, m2, _, _, h0, h3⟩ := trod_struct2 Tryz.underlying136 hf
    simp [Value.cells, hL, hE] at h0 h3
    obtain ⟨z0, z1, z2, m3, _, _, h4, h5, h6⟩ := trod_struct3 Tryz.underlying134 h3
    simp [hI] at h4 h5 h6
    obtain ⟨ab, nb, cb, B, e0, _, hbm, hB⟩ := stmts_trod h0
    obtain ⟨o, e3, _, _⟩ := DataW.trod_int Tryz.underlying3 h4
    obtain ⟨a', e4, _, _⟩ := DataW.trod_int Tryz.underlying3 h5
    obtain ⟨b', e5, _, _⟩ := DataW.trod_int Tryz.underlying3 h6
    simp at e3 e4 e5
    subst e0 e3 e4 e5
    exact ⟨ab, nb, cb, ⟨B, o, a', b'⟩, rfl, hbm, hB⟩
/-- A program that came in. -/
def IsPrgV (w : World) (v : Value) : Prop := ∃ (a : Option Addr) (len cap : Nat) (P : List Tk), v = .agg #[.slice a len cap] ∧ len ≤ maxLen ∧ (∀ t ∈ P, t.b.length ≤ maxLen) ∧ TkRow w a len P
set_option maxRecDepth 100000 in
theorem open_Program {H : Type} {enc : TypeId × Value → H} {w : World} {base : Nat} {spare : Nat → Bool} {held : Bool} {r : Reach} {b0 : Nat} {v : Value} {d : DataW H} {p : List MemPlace}
    (hv : Value.okWide Tryz.prog w r b0 46 v) (h : DataW.Trod enc Tryz.prog w base spare held 46 v d p) : IsPrgV w v := by
  obtain ⟨⟨cs⟩, rfl, hsz⟩ := okWide_struct Tryz.underlying46 hv
  obtain ⟨fuel, hf⟩ := h
  have hC : Tryz.prog.cellsOf 46 = 1 := by kernel_rfl
  have hT : Tryz.prog.cellsOf 44 = 1 := by kernel_rfl
  rw [hC] at hsz
  match cs, hsz, hf with
  | [c0], _, hf =>
    obtain ⟨y0, m, _, _, h0⟩ := trod_struct1 Tryz.underlying46 hf
    simp [Value.cells, hT] at h0
    obtain ⟨a, len, cap, P, rfl, _, h1, h2, h3⟩ := tasks_trod h0
    exact ⟨a, len, cap, P, rfl, h1, h2, h3⟩
end Go.Proofs.YtekdnhhmiabngaaGreat.opn

/- The numbers of the variables that two operands name: found by a search from 0 on, or collected, sorted and made single: the same list. Plain mathematics; no condition but that the operands are valid. -/
namespace Go.Proofs.YtekdnhhmiabngaaGreat.expr

/-- The numbers below 'k' that one of the operands names. -/
def rd (a b : Int) (k : Nat) : List Int := ((List.range k).filter fun (j : Nat) => decide (a = -1 - (j : Int)) || decide (b = -1 - (j : Int))).map fun (j : Nat) => (j : Int)
theorem rd_zero (a b : Int) : rd a b 0 = [] := rfl
theorem rd_yes {a b : Int} {k : Nat} (h : a = -1 - (k : Int) ∨ b = -1 - (k : Int)) : rd a b (k + 1) = rd a b k ++ [(k : Int)] := by
  have hc : (decide (a = -1 - (k : Int)) || decide (b = -1 - (k : Int))) = true := by simpa using h
  simp [rd, List.range_succ, hc]
theorem rd_no {a b : Int} {k : Nat} (h : ¬ (a = -1 - (k : Int) ∨ b = -1 - (k : Int))) : rd a b (k + 1) = rd a b k := by
  have hc : (decide (a = -1 - (k : Int)) || decide (b = -1 - (k : Int))) = false := by simpa using h
  simp [rd, List.range_succ, hc]
theorem rd_len (a b : Int) (k : Nat) : (rd a b k).length ≤ k := by
  unfold rd; rw [List.length_map]; exact Nat.le_trans (List.length_filter_le _ _) (by simp)
theorem rd_b {a b : Int} (h : 0 ≤ b) (k : Nat) : rd a b k = rd a 0 k := by
  unfold rd; congr 1; apply List.filter_congr; intro j _
  have h1 : ¬ b = -1 - (j : Int) := by omega
  have h2 : ¬ (0 : Int) = -1 - (j : Int) := by omega
  simp only [h1, h2]
theorem rd_a {a b : Int} (h : 0 ≤ a) (k : Nat) : rd a b k = rd 0 b k := by
  unfold rd; congr 1; apply List.filter_congr; intro j _
  have h1 : ¬ a = -1 - (j : Int) := by omega
  have h2 : ¬ (0 : Int) = -1 - (j : Int) := by omega
  simp only [h1, h2]

/-- The variable that an operand names, if it does. -/
def vk (x : Int) : List Int := if x < 0 then [-1 - x] else []
theorem vk_neg {x : Int} (h : x < 0) : vk x = [-1 - x] := by simp [vk, h]
theorem vk_pos {x : Int} (h : ¬ x < 0) : vk x = [] := by simp [vk, h]
theorem compact0 : Lib.compact ([] : List Int) = [] := by simp [Lib.compact, Lib.compactUpTo]
theorem compact1 (x : Int) : Lib.compact [x] = [x] := by simp [Lib.compact, Lib.compactUpTo, Lib.keeps, List.range_succ]
theorem compact2 (x y : Int) : Lib.compact [x, y] = if x = y then [x] else [x, y] := by
  by_cases h : x = y
  · subst h; simp [Lib.compact, Lib.compactUpTo, Lib.keeps, List.range_succ]
  · have h' : ¬ y = x := fun e => h e.symm
    simp [Lib.compact, Lib.compactUpTo, Lib.keeps, List.range_succ, h, h']
def srt (L : List Int) : List Int := L.mergeSort fun x y => decide (x ≤ y)
theorem srt0 : srt [] = [] := by simp [srt]
theorem srt1 (x : Int) : srt [x] = [x] := by simp [srt]
theorem srt2 (x y : Int) : srt [x, y] = if x ≤ y then [x, y] else [y, x] := by
  unfold srt
  by_cases h : x ≤ y <;> simp [List.mergeSort, h]
theorem one_rd (i : Fin 8) : rd (-1 - (i.val : Int)) 0 8 = [(i.val : Int)] ∧ rd 0 (-1 - (i.val : Int)) 8 = [(i.val : Int)] := by
  revert i; decide
theorem two_rd (i j : Fin 8) : rd (-1 - (i.val : Int)) (-1 - (j.val : Int)) 8 = if (i.val : Int) = j.val then [(i.val : Int)] else if (i.val : Int) ≤ j.val then [(i.val : Int), (j.val : Int)] else [(j.val : Int), (i.val : Int)] := by
  revert i j; decide
theorem reads_same (a b : Int) (ha : -8 ≤ a) (hb : -8 ≤ b) : Lib.compact (srt (vk a ++ vk b)) = rd a b 8 := by
  by_cases h1 : a < 0 <;> by_cases h2 : b < 0
  · obtain ⟨i, hi, rfl⟩ : ∃ i : Nat, i < 8 ∧ a = -1 - (i : Int) := ⟨(-1 - a).toNat, by omega, by omega⟩
    obtain ⟨j, hj, rfl⟩ : ∃ j : Nat, j < 8 ∧ b = -1 - (j : Int) := ⟨(-1 - b).toNat, by omega, by omega⟩
    have e := two_rd ⟨i, hi⟩ ⟨j, hj⟩
    simp only at e
    rw [e, vk_neg h1, vk_neg h2, show (-1 - (-1 - (i : Int))) = i by omega, show (-1 - (-1 - (j : Int))) = j by omega]
    show Lib.compact (srt [(i : Int), (j : Int)]) = _
    rw [srt2]
    by_cases hle : (i : Int) ≤ j
    · simp only [if_pos hle, compact2]
    · have he : ¬ (j : Int) = i := by omega
      have he' : ¬ (i : Int) = j := by omega
      simp only [if_neg hle, compact2, if_neg he, if_neg he']
  · obtain ⟨i, hi, rfl⟩ : ∃ i : Nat, i < 8 ∧ a = -1 - (i : Int) := ⟨(-1 - a).toNat, by omega, by omega⟩
    rw [rd_b (by omega), vk_neg h1, vk_pos h2, show (-1 - (-1 - (i : Int))) = i by omega, List.append_nil, srt1, compact1]
    exact (one_rd ⟨i, hi⟩).1.symm
  · obtain ⟨j, hj, rfl⟩ : ∃ j : Nat, j < 8 ∧ b = -1 - (j : Int) := ⟨(-1 - b).toNat, by omega, by omega⟩
    rw [rd_a (by omega), vk_neg h2, vk_pos h1, show (-1 - (-1 - (j : Int))) = j by omega, List.nil_append, srt1, compact1]
    exact (one_rd ⟨j, hj⟩).2.symm
  · rw [rd_a (by omega), rd_b (by omega), vk_pos h1, vk_pos h2, List.nil_append, srt0, compact0]; decide
end Go.Proofs.YtekdnhhmiabngaaGreat.expr

/- The sets of variables of a block: what may be written, what is certainly written ahead of a place, what can be read before it is written. Plain mathematics. -/
namespace Go.Proofs.YtekdnhhmiabngaaGreat.sets
open Go Go.Proofs.YtekdnhhmiabngaaGreat.stm Go.Proofs.YtekdnhhmiabngaaGreat.blk Go.Proofs.YtekdnhhmiabngaaGreat.expr

abbrev Sm := Go.Proofs.YtekdnhhmiabngaaGreat.stm.St
/-- The statement writes its variable. -/
def wr (s : Sm) : Prop := s.k = 1 ∨ s.k = 2
/-- The statement reads its expression. -/
def rds (s : Sm) : Prop := s.k = 1 ∨ s.k = 3 ∨ s.k = 4
/-- The variables of a set, in ascending order, below 'k'. -/
def lst (f : Nat → Bool) (k : Nat) : List Int := ((List.range k).filter f).map fun (j : Nat) => (j : Int)
theorem lst_zero (f : Nat → Bool) : lst f 0 = [] := rfl
theorem lst_yes {f : Nat → Bool} {k : Nat} (h : f k = true) : lst f (k + 1) = lst f k ++ [(k : Int)] := by simp [lst, List.range_succ, h]
theorem lst_no {f : Nat → Bool} {k : Nat} (h : f k = false) : lst f (k + 1) = lst f k := by simp [lst, List.range_succ, h]
theorem lst_len (f : Nat → Bool) (k : Nat) : (lst f k).length ≤ k := by
  have := List.length_filter_le f (List.range k)
  simpa [lst] using this
theorem lst_congr {f g : Nat → Bool} {k : Nat} (h : ∀ v, v < k → f v = g v) : lst f k = lst g k := by
  unfold lst
  rw [List.filter_congr (fun v hv => h v (List.mem_range.1 hv))]
theorem lst_mem {f : Nat → Bool} {k v : Nat} : (v : Int) ∈ lst f k ↔ v < k ∧ f v = true := by
  unfold lst
  simp only [List.mem_map, List.mem_filter, List.mem_range]
  constructor
  · rintro ⟨a, h, e⟩
    obtain rfl : a = v := by omega
    exact h
  · exact fun h => ⟨v, h, rfl⟩
theorem lst_nil {f : Nat → Bool} (h : ∀ v, f v = false) : ∀ k, lst f k = []
  | 0 => rfl
  | k + 1 => by rw [lst_no (h k), lst_nil h k]
/-- The statement 'j' writes the variable 'v'. -/
def WrAt (B : List Sm) (j v : Nat) : Prop := ∃ s, B[j]? = some s ∧ wr s ∧ s.v = v
/-- Written ahead of the place 'p', in some execution. -/
def MayTo (B : List Sm) (p v : Nat) : Prop := ∃ j, j < p ∧ WrAt B j v
/-- The place 'p' lies inside the condition 'i'. -/
def InIf (B : List Sm) (i p : Nat) : Prop := ∃ e s, B[i]? = some s ∧ s.k = 4 ∧ IsEnd B i e ∧ i < p ∧ p ≤ e
/-- Certainly written ahead of the place 'p'. -/
def WAt (B : List Sm) (p v : Nat) : Prop := ∃ j, j < p ∧ WrAt B j v ∧ ∀ i, InIf B i j → InIf B i p
/-- The statement 'j' reads the variable 'v'. -/
def RdAt (B : List Sm) (j v : Nat) : Prop := ∃ s, B[j]? = some s ∧ rds s ∧ (v : Int) ∈ rd s.a s.b 8
/-- Read ahead of the place 'p', before it is certainly written. -/
def FAt (B : List Sm) (p v : Nat) : Prop := ∃ j, j < p ∧ RdAt B j v ∧ ¬ WAt B j v

theorem mayTo_zero {B : List Sm} {v : Nat} : ¬ MayTo B 0 v := fun ⟨j, h, _⟩ => by omega
theorem mayTo_succ {B : List Sm} {p v : Nat} : MayTo B (p + 1) v ↔ MayTo B p v ∨ WrAt B p v := by
  constructor
  · rintro ⟨j, hj, h⟩
    by_cases e : j = p
    · subst e; exact .inr h
    · exact .inl ⟨j, by omega, h⟩
  · rintro (⟨j, hj, h⟩ | h)
    · exact ⟨j, by omega, h⟩
    · exact ⟨p, by omega, h⟩
/-- Ends are nested. -/
theorem end_in {B : List Sm} {i e i' e' : Nat} (h : IsEnd B i e) (h' : IsEnd B i' e') (h1 : i' < i) (h2 : i ≤ e') : e < e' := by
  have a1 := h'.2.2.2 i h1 h2
  rcases Nat.lt_trichotomy e e' with hlt | rfl | hlt
  · exact hlt
  · have := h.2.2.1; have := h'.2.2.1; omega
  · have := h.2.2.2 (e' + 1) (by omega) (by omega); have := h'.2.2.1; omega
theorem wAt_zero {B : List Sm} {v : Nat} : ¬ WAt B 0 v := fun ⟨j, h, _⟩ => by omega
theorem WrAt.not6 {B : List Sm} {j v i e : Nat} (h : WrAt B j v) (he : IsEnd B i e) : j ≠ e := by
  rintro rfl
  obtain ⟨s, hs, hw, _⟩ := h
  obtain ⟨t, ht, h6⟩ := he.kind
  rw [hs] at ht
  cases ht
  rcases hw with h | h <;> omega
/-- One place on, where no condition ends. -/
theorem wAt_succ {B : List Sm} {p v : Nat} (hp : ∀ i s, B[i]? = some s → s.k = 4 → ¬ IsEnd B i p) : WAt B (p + 1) v ↔ WAt B p v ∨ WrAt B p v := by
  constructor
  · rintro ⟨j, hj, hw, hi⟩
    by_cases e : j = p
    · subst e; exact .inr hw
    · refine .inl ⟨j, by omega, hw, fun i h => ?_⟩
      obtain ⟨e1, s1, h1, h2, h3, h4, h5⟩ := h
      obtain ⟨e2, s2, g1, g2, g3, g4, g5⟩ := hi i ⟨e1, s1, h1, h2, h3, h4, h5⟩
      exact ⟨e2, s2, g1, g2, g3, by omega, by omega⟩
  · rintro (⟨j, hj, hw, hi⟩ | hw)
    · refine ⟨j, by omega, hw, fun i h => ?_⟩
      obtain ⟨e2, s2, g1, g2, g3, g4, g5⟩ := hi i h
      have : p ≠ e2 := fun e => hp i s2 g1 g2 (by rw [e]; exact g3)
      exact ⟨e2, s2, g1, g2, g3, by omega, by omega⟩
    · refine ⟨p, by omega, hw, fun i h => ?_⟩
      obtain ⟨e2, s2, g1, g2, g3, g4, g5⟩ := h
      have := hw.not6 g3
      exact ⟨e2, s2, g1, g2, g3, by omega, by omega⟩
/-- A condition discards what it wrote. -/
theorem wAt_if {B : List Sm} {i e v : Nat} {s : Sm} (hs : B[i]? = some s) (h4 : s.k = 4) (he : IsEnd B i e) : WAt B (e + 1) v ↔ WAt B i v := by
  constructor
  · rintro ⟨j, hj, hw, hi⟩
    have hji : j < i := by
      by_cases h : j < i
      · exact h
      · exfalso
        by_cases e2 : j = i
        · subst e2
          obtain ⟨t, ht, hw2, _⟩ := hw
          rw [hs] at ht; cases ht
          rcases hw2 with h | h <;> omega
        · obtain ⟨e2, s2, g1, g2, g3, g4, g5⟩ := hi i ⟨e, s, hs, h4, he, by omega, by omega⟩
          have := he.unique g3
          omega
    refine ⟨j, hji, hw, fun i' h => ?_⟩
    obtain ⟨e1, s1, h1, h2, h3, h5, h6⟩ := h
    obtain ⟨e2, s2, g1, g2, g3, g4, g5⟩ := hi i' ⟨e1, s1, h1, h2, h3, h5, h6⟩
    have := he.1
    exact ⟨e2, s2, g1, g2, g3, by omega, by omega⟩
  · rintro ⟨j, hj, hw, hi⟩
    refine ⟨j, by have := he.1; omega, hw, fun i' h => ?_⟩
    obtain ⟨e2, s2, g1, g2, g3, g4, g5⟩ := hi i' h
    have := end_in he g3 g4 g5
    exact ⟨e2, s2, g1, g2, g3, by have := he.1; omega, by omega⟩
theorem fAt_zero {B : List Sm} {v : Nat} : ¬ FAt B 0 v := fun ⟨j, h, _⟩ => by omega
theorem fAt_succ {B : List Sm} {p v : Nat} : FAt B (p + 1) v ↔ FAt B p v ∨ (RdAt B p v ∧ ¬ WAt B p v) := by
  constructor
  · rintro ⟨j, hj, h⟩
    by_cases e : j = p
    · subst e; exact .inr h
    · exact .inl ⟨j, by omega, h⟩
  · rintro (⟨j, hj, h⟩ | h)
    · exact ⟨j, by omega, h⟩
    · exact ⟨p, by omega, h⟩
/-- The end reads and writes nothing. -/
theorem end_nothing {B : List Sm} {i e v : Nat} (he : IsEnd B i e) : ¬ WrAt B e v ∧ ¬ RdAt B e v := by
  obtain ⟨t, ht, h6⟩ := he.kind
  constructor
  · rintro ⟨s, hs, hw, _⟩
    rw [hs] at ht; cases ht
    rcases hw with h | h <;> omega
  · rintro ⟨s, hs, hw, _⟩
    rw [hs] at ht; cases ht
    rcases hw with h | h | h <;> omega
/-- No condition is around the place. -/
def Out (B : List Sm) (p : Nat) : Prop := ∀ i, ¬ InIf B i p
theorem Out.zero (B : List Sm) : Out B 0 := fun i ⟨_, _, _, _, _, h, _⟩ => by omega
theorem Out.noEnd {B : List Sm} {p : Nat} (h : Out B p) : ∀ i s, B[i]? = some s → s.k = 4 → ¬ IsEnd B i p := fun i s hs h4 he => h i ⟨p, s, hs, h4, he, he.1, Nat.le_refl _⟩
theorem Out.succ {B : List Sm} {p : Nat} {s : Sm} (h : Out B p) (hs : B[p]? = some s) (h4 : s.k ≠ 4) : Out B (p + 1) := fun i ⟨e, t, h1, h2, h3, h5, h6⟩ => by
  by_cases e1 : i = p
  · subst e1; rw [hs] at h1; cases h1; exact h4 h2
  · exact h i ⟨e, t, h1, h2, h3, by omega, by omega⟩
theorem Out.jump {B : List Sm} {i e : Nat} (h : Out B i) (he : IsEnd B i e) : Out B (e + 1) := fun i' ⟨e', t, h1, h2, h3, h5, h6⟩ => by
  rcases Nat.lt_trichotomy i' i with hlt | rfl | hlt
  · exact h i' ⟨e', t, h1, h2, h3, hlt, by have := he.1; omega⟩
  · have := he.unique h3; omega
  · have := end_in h3 he hlt (by omega); omega
/-- A part of a block that begins and ends at the same height and is nowhere lower. -/
def Seg (B : List Sm) (a b : Nat) : Prop := a ≤ b ∧ b ≤ B.length ∧ hAt B b = hAt B a ∧ ∀ j, a ≤ j → j ≤ b → hAt B a ≤ hAt B j
theorem Seg.all {B : List Sm} (h : IsBlk B) : Seg B 0 B.length := ⟨Nat.zero_le _, Nat.le_refl _, by rw [h.2.1, hAt_zero], fun j _ _ => by rw [hAt_zero]; exact (blk_bounds h j).1⟩
theorem Seg.not6 {B : List Sm} {a b p : Nat} {s : Sm} (h : Seg B a b) (hp : a ≤ p) (hpb : p < b) (hh : hAt B p = hAt B a) (hs : B[p]? = some s) : s.k ≠ 6 := fun h6 => by
  have h1 := hAt_succ hs
  rw [dlt_end h6] at h1
  have := h.2.2.2 (p + 1) (by omega) (by omega)
  omega
theorem Seg.noEnd {B : List Sm} {a b p : Nat} (h : Seg B a b) (hp : a ≤ p) (hpb : p < b) (hh : hAt B p = hAt B a) : ∀ i s, B[i]? = some s → s.k = 4 → ¬ IsEnd B i p := fun i s _ _ he => by
  obtain ⟨t, ht, h6⟩ := he.kind
  exact h.not6 hp hpb hh ht h6
theorem Seg.inner {B : List Sm} {a b i e : Nat} (h : Seg B a b) (hib : i < b) (hh : hAt B i = hAt B a) (he : IsEnd B i e) : e < b ∧ Seg B (i + 1) e ∧ hAt B (e + 1) = hAt B a := by
  have h1 := he.2.2.1
  have heb : e < b := by
    by_cases h9 : e < b
    · exact h9
    · have := he.2.2.2 b hib (by omega); have := h.2.2.1; omega
  obtain ⟨s, hs, ho⟩ := he.opens
  have h2 := hAt_succ hs
  rw [dlt_opn ho] at h2
  refine ⟨heb, ⟨by have := he.1; omega, by have := h.2.1; omega, ?_, fun j h3 h4 => ?_⟩, by omega⟩
  · have := he.depth; omega
  · have := he.2.2.2 j (by omega) h4; omega
end Go.Proofs.YtekdnhhmiabngaaGreat.sets
