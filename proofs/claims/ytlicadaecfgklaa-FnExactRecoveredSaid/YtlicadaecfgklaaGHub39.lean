/- Several texts in one: OpenP. -/
import Derived.Test.YtlicadaecfgklaaGHub38
import Derived.Test.YtlicadaecfgklaaGHub21

/- What a law's argument is made of: a program is a slice of tasks, each with a slice of statements. -/
namespace Go.Proofs.Ytlicadaecfgklaa.opn
open Go.ChangeShapes Go.WideShapes Go.ChangeAt Go.RowKit Go.Joins Go.Deep Go.Proofs.Ytlicadaecfgklaa.stm Go.Proofs.Ytlicadaecfgklaa.prg

theorem list_ofG {α : Type} {P : Nat → α → Prop} : ∀ n, (∀ i, i < n → ∃ s, P i s) → ∃ L : List α, L.length = n ∧ ∀ i s, L[i]? = some s → P i s
  | 0, _ => ⟨[], rfl, fun i s h => by simp at h⟩
  | n + 1, h => by
    obtain ⟨L, hl, hL⟩ := list_ofG n (fun i hi => h i (by omega))
    obtain ⟨s, hs⟩ := h n (by omega)
    refine ⟨L ++ [s], by simp [hl], fun i t ht => ?_⟩
    by_cases hi : i < L.length
    · rw [List.getElem?_append_left hi] at ht; exact hL i t ht
    · have hil := (List.getElem?_eq_some_iff.1 ht).1
      simp at hil
      obtain rfl : i = n := by omega
      rw [List.getElem?_append_right (by omega), hl, Nat.sub_self] at ht
      simp at ht; subst ht; exact hs
set_option maxRecDepth 100000 in
/-- One cell that reads as a slice of statements. -/
theorem stmts_trod {H : Type} {enc : TypeId × Value → H} {w : World} {base : Nat} {spare : Nat → Bool} {held : Bool} {fuel : Nat} {c : Value} {x : DataW H × List MemPlace}
    (hf : DataW.trod enc Try.prog w base spare held fuel 65 [c] = some x) : ∃ (a : Option Addr) (len cap : Nat) (L : List St), c = .slice a len cap ∧ len ≤ cap ∧ len ≤ maxLen ∧ StRow w a len L := by
  have hI : Try.prog.cellsOf 3 = 1 := by kernel_rfl
  have hE : Try.prog.cellsOf 67 = 3 := by kernel_rfl
  have hS : Try.prog.cellsOf 90 = 6 := by kernel_rfl
  rcases open_slice Try.underlying65 hf with ⟨hcs, _⟩ | ⟨x, l, c', m, n, D, Pl, hcs, _, hl, hm, hmm, _, hx⟩
  · simp at hcs
    subst hcs
    exact ⟨none, 0, 0, [], rfl, Nat.le_refl _, Nat.zero_le _, StRow.nil _ _⟩
  · simp at hcs
    subst hcs
    have hlm : l ≤ m := by rw [hmm]; split <;> omega
    have each : ∀ i, i < l → ∃ s : St, ∀ j t, (stC s)[j]? = some t → w.cell? (x.add (i * 6 + j)) = some t := by
      intro i hi
      obtain ⟨cs, h1, h2⟩ := hx i (by omega)
      rw [hS] at h1
      obtain ⟨_, hlen, hcell⟩ := World.cells?_some h1
      match cs, hlen, h2, hcell with
      | [c0, c1, c2, c3, c4, c5], _, h2, hcell =>
        obtain ⟨y0, y1, y2, y3, m2, _, _, h0, h1', h2', h3⟩ := trod_struct4 Try.underlying90 h2
        simp [hI, hE] at h0 h1' h2' h3
        obtain ⟨z0, z1, z2, m3, _, _, h4, h5, h6⟩ := trod_struct3 Try.underlying67 h3
        simp [hI] at h4 h5 h6
        obtain ⟨k, e0, _, _⟩ := DataW.trod_int Try.underlying3 h0
        obtain ⟨v, e1, _, _⟩ := DataW.trod_int Try.underlying3 h1'
        obtain ⟨n', e2, _, _⟩ := DataW.trod_int Try.underlying3 h2'
        obtain ⟨o, e3, _, _⟩ := DataW.trod_int Try.underlying3 h4
        obtain ⟨a', e4, _, _⟩ := DataW.trod_int Try.underlying3 h5
        obtain ⟨b', e5, _, _⟩ := DataW.trod_int Try.underlying3 h6
        simp at e0 e1 e2 e3 e4 e5
        subst e0 e1 e2 e3 e4 e5
        refine ⟨⟨k, v, n', o, a', b'⟩, fun j t ht => ?_⟩
        have hj : j < 6 := by have := (List.getElem?_eq_some_iff.1 ht).1; simpa [stC] using this
        have := hcell j hj
        rw [add_add] at this
        rw [this]; exact ht
    obtain ⟨L, hL, hLs⟩ := list_ofG (P := fun i s => ∀ j t, (stC s)[j]? = some t → w.cell? (x.add (i * 6 + j)) = some t) l each
    refine ⟨some x, l, c', L, rfl, hl, by omega, hL, fun k hk => ?_⟩
    have hkL : k < L.length := by omega
    have h0L : 0 < L.length := by omega
    have hs : L[k]? = some L[k] := by simp [hkL]
    have hc := hLs k _ hs
    have hc00 := hLs 0 L[0] (by simp) 0 _ rfl
    obtain ⟨b, off, spot⟩ := x
    have hspot : spot = none := by simpa [Addr.add] using World.cell?_spot hc00
    subst hspot
    refine ⟨b, off, L[k], rfl, ?_, hs, fun j t ht => ?_⟩
    · have h0 := hc 0 _ rfl
      rw [Go.WideShapes.add_plain] at h0
      exact World.block_lt_of_cell? w _ h0
    · have h0 := hc j t ht
      rw [Go.WideShapes.add_plain, ← Nat.add_assoc] at h0
      exact h0
set_option maxRecDepth 100000 in
/-- One cell that reads as a slice of tasks. -/
theorem tasks_trod {H : Type} {enc : TypeId × Value → H} {w : World} {base : Nat} {spare : Nat → Bool} {held : Bool} {fuel : Nat} {c : Value} {x : DataW H × List MemPlace}
    (hf : DataW.trod enc Try.prog w base spare held fuel 31 [c] = some x) : ∃ (a : Option Addr) (len cap : Nat) (P : List Tk), c = .slice a len cap ∧ len ≤ cap ∧ len ≤ maxLen ∧ (∀ t ∈ P, t.b.length ≤ maxLen) ∧ TkRow w a len P := by
  have hI : Try.prog.cellsOf 3 = 1 := by kernel_rfl
  have hE : Try.prog.cellsOf 67 = 3 := by kernel_rfl
  have hL : Try.prog.cellsOf 65 = 1 := by kernel_rfl
  have hT : Try.prog.cellsOf 69 = 4 := by kernel_rfl
  rcases open_slice Try.underlying31 hf with ⟨hcs, _⟩ | ⟨x, l, c', m, n, D, Pl, hcs, _, hl, hm, hmm, _, hx⟩
  · simp at hcs
    subst hcs
    exact ⟨none, 0, 0, [], rfl, Nat.le_refl _, Nat.zero_le _, fun t ht => (by cases ht), TkRow.nil _ _⟩
  · simp at hcs
    subst hcs
    have hlm : l ≤ m := by rw [hmm]; split <;> omega
    have each : ∀ i, i < l → ∃ t : Tk, ∃ (ab : Option Addr) (nb cb : Nat), (∀ j v, (tkC ab nb cb t)[j]? = some v → w.cell? (x.add (i * 4 + j)) = some v) ∧ nb ≤ cb ∧ nb ≤ maxLen ∧ StRow w ab nb t.b := by
      intro i hi
      obtain ⟨cs, h1, h2⟩ := hx i (by omega)
      rw [hT] at h1
      obtain ⟨_, hlen, hcell⟩ := World.cells?_some h1
      match cs, hlen, h2, hcell with
      | [c0, c1, c2, c3], _, h2, hcell =>
        obtain ⟨y0, y1, m2, _, _, h0, h3⟩ := trod_struct2 Try.underlying69 h2
        simp [hL, hE] at h0 h3
        obtain ⟨z0, z1, z2, m3, _, _, h4, h5, h6⟩ := trod_struct3 Try.underlying67 h3
        simp [hI] at h4 h5 h6
        obtain ⟨ab, nb, cb, B, e0, hbc, hbm, hB⟩ := stmts_trod h0
        obtain ⟨o, e3, _, _⟩ := DataW.trod_int Try.underlying3 h4
        obtain ⟨a', e4, _, _⟩ := DataW.trod_int Try.underlying3 h5
        obtain ⟨b', e5, _, _⟩ := DataW.trod_int Try.underlying3 h6
        simp at e3 e4 e5
        subst e0 e3 e4 e5
        refine ⟨⟨B, o, a', b'⟩, ab, nb, cb, fun j t ht => ?_, hbc, hbm, hB⟩
        have hj : j < 4 := by have := (List.getElem?_eq_some_iff.1 ht).1; simpa [tkC] using this
        have := hcell j hj
        rw [add_add] at this
        rw [this]; exact ht
    obtain ⟨L, hL, hLs⟩ := list_ofG (P := fun i t => ∃ (ab : Option Addr) (nb cb : Nat), (∀ j v, (tkC ab nb cb t)[j]? = some v → w.cell? (x.add (i * 4 + j)) = some v) ∧ nb ≤ cb ∧ nb ≤ maxLen ∧ StRow w ab nb t.b) l each
    refine ⟨some x, l, c', L, rfl, hl, by omega, fun t ht => ?_, hL, fun k hk => ?_⟩
    · obtain ⟨j, hj⟩ := List.mem_iff_getElem?.1 ht
      obtain ⟨_, nb, _, _, _, hnb, hB⟩ := hLs j t hj
      rw [hB.1]; exact hnb
    have hkL : k < L.length := by omega
    have h0L : 0 < L.length := by omega
    have hs : L[k]? = some L[k] := by simp [hkL]
    obtain ⟨ab, nb, cb, hc, hbc, _, hB⟩ := hLs k _ hs
    obtain ⟨ab0, nb0, cb0, hc0, _⟩ := hLs 0 L[0] (by simp)
    have hc00 := hc0 0 _ rfl
    obtain ⟨b, off, spot⟩ := x
    have hspot : spot = none := by simpa [Addr.add] using World.cell?_spot hc00
    subst hspot
    refine ⟨b, off, L[k], rfl, ?_, hs, ab, nb, cb, fun j t ht => ?_, hbc, hB⟩
    · have h0 := hc 0 _ rfl
      rw [Go.WideShapes.add_plain] at h0
      exact World.block_lt_of_cell? w _ h0
    · have h0 := hc j t ht
      rw [Go.WideShapes.add_plain, ← Nat.add_assoc] at h0
      exact h0
/-- A task that came in. -/
def IsTaskV (w : World) (v : Value) : Prop := ∃ (ab : Option Addr) (nb cb : Nat) (t : Tk), v = tkV ab nb cb t ∧ nb ≤ maxLen ∧ StRow w ab nb t.b
set_option maxRecDepth 100000 in
theorem open_Task {H : Type} {enc : TypeId × Value → H} {w : World} {base : Nat} {spare : Nat → Bool} {held : Bool} {r : Reach} {b0 : Nat} {v : Value} {d : DataW H} {p : List MemPlace}
    (hv : Value.okWide Try.prog w r b0 69 v) (h : DataW.Trod enc Try.prog w base spare held 69 v d p) : IsTaskV w v := by
  obtain ⟨⟨cs⟩, rfl, hsz⟩ := okWide_struct Try.underlying69 hv
  obtain ⟨fuel, hf⟩ := h
  have hI : Try.prog.cellsOf 3 = 1 := by kernel_rfl
  have hE : Try.prog.cellsOf 67 = 3 := by kernel_rfl
  have hL : Try.prog.cellsOf 65 = 1 := by kernel_rfl
  have hC : Try.prog.cellsOf 69 = 4 := by kernel_rfl
  rw [hC] at hsz
  match cs, hsz, hf with
  | [c0, c1, c2, c3], _, hf =>
    obtain ⟨y0, y1, m2, _, _, h0, h3⟩ := trod_struct2 Try.underlying69 hf
    simp [Value.cells, hL, hE] at h0 h3
    obtain ⟨z0, z1, z2, m3, _, _, h4, h5, h6⟩ := trod_struct3 Try.underlying67 h3
    simp [hI] at h4 h5 h6
    obtain ⟨ab, nb, cb, B, e0, _, hbm, hB⟩ := stmts_trod h0
    obtain ⟨o, e3, _, _⟩ := DataW.trod_int Try.underlying3 h4
    obtain ⟨a', e4, _, _⟩ := DataW.trod_int Try.underlying3 h5
    obtain ⟨b', e5, _, _⟩ := DataW.trod_int Try.underlying3 h6
    simp at e3 e4 e5
    subst e0 e3 e4 e5
    exact ⟨ab, nb, cb, ⟨B, o, a', b'⟩, rfl, hbm, hB⟩
/-- A program that came in. -/
def IsPrgV (w : World) (v : Value) : Prop := ∃ (a : Option Addr) (len cap : Nat) (P : List Tk), v = .agg #[.slice a len cap] ∧ len ≤ maxLen ∧ (∀ t ∈ P, t.b.length ≤ maxLen) ∧ TkRow w a len P
set_option maxRecDepth 100000 in
theorem open_Program {H : Type} {enc : TypeId × Value → H} {w : World} {base : Nat} {spare : Nat → Bool} {held : Bool} {r : Reach} {b0 : Nat} {v : Value} {d : DataW H} {p : List MemPlace}
    (hv : Value.okWide Try.prog w r b0 33 v) (h : DataW.Trod enc Try.prog w base spare held 33 v d p) : IsPrgV w v := by
  obtain ⟨⟨cs⟩, rfl, hsz⟩ := okWide_struct Try.underlying33 hv
  obtain ⟨fuel, hf⟩ := h
  have hC : Try.prog.cellsOf 33 = 1 := by kernel_rfl
  have hT : Try.prog.cellsOf 31 = 1 := by kernel_rfl
  rw [hC] at hsz
  match cs, hsz, hf with
  | [c0], _, hf =>
    obtain ⟨y0, m, _, _, h0⟩ := trod_struct1 Try.underlying33 hf
    simp [Value.cells, hT] at h0
    obtain ⟨a, len, cap, P, rfl, _, h1, h2, h3⟩ := tasks_trod h0
    exact ⟨a, len, cap, P, rfl, h1, h2, h3⟩
end Go.Proofs.Ytlicadaecfgklaa.opn
