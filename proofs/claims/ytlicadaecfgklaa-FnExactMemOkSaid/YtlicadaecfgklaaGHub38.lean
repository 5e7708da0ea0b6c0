/- Several texts in one: OpenB. -/
import Derived.Test.YtlicadaecfgklaaGHub6
import Derived.Test.YtlicadaecfgklaaGHub18
import Derived.Deep.Slices

/- What a law's argument is made of: a slice of statements reads as a list of statements. -/
namespace Go.Proofs.Ytlicadaecfgklaa.opn
open Go.ChangeShapes Go.WideShapes Go.ChangeAt Go.RowKit Go.Joins Go.Deep Go.Proofs.Ytlicadaecfgklaa.stm

/-- A row of statements that came in. -/
def IsStmts (w : World) (v : Value) : Prop := ∃ (a : Option Addr) (len cap : Nat) (L : List St), v = .slice a len cap ∧ len ≤ maxLen ∧ StRow w a len L
theorem list_of {P : Nat → St → Prop} : ∀ n, (∀ i, i < n → ∃ s, P i s) → ∃ L : List St, L.length = n ∧ ∀ i s, L[i]? = some s → P i s
  | 0, _ => ⟨[], rfl, fun i s h => by simp at h⟩
  | n + 1, h => by
    obtain ⟨L, hl, hL⟩ := list_of n (fun i hi => h i (by omega))
    obtain ⟨s, hs⟩ := h n (by omega)
    refine ⟨L ++ [s], by simp [hl], fun i t ht => ?_⟩
    by_cases hi : i < L.length
    · rw [List.getElem?_append_left hi] at ht; exact hL i t ht
    · have hil := (List.getElem?_eq_some_iff.1 ht).1
      simp at hil
      obtain rfl : i = n := by omega
      rw [List.getElem?_append_right (by omega), hl, Nat.sub_self] at ht
      simp at ht; subst ht; exact hs
set_option maxRecDepth 100000 in
theorem open_Stmts {H : Type} {enc : TypeId × Value → H} {w : World} {base : Nat} {spare : Nat → Bool} {held : Bool} {r : Reach} {b0 : Nat} {v : Value} {d : DataW H} {p : List MemPlace}
    (hv : Value.okWide Try.prog w r b0 65 v) (h : DataW.Trod enc Try.prog w base spare held 65 v d p) : IsStmts w v := by
  obtain ⟨a, len, cap, rfl⟩ := okWide_slice Try.underlying65 hv
  obtain ⟨fuel, hf⟩ := h
  have hI : Try.prog.cellsOf 3 = 1 := by kernel_rfl
  have hE : Try.prog.cellsOf 67 = 3 := by kernel_rfl
  have hS : Try.prog.cellsOf 90 = 6 := by kernel_rfl
  rcases open_slice Try.underlying65 hf with ⟨hcs, _⟩ | ⟨x, l, c, m, n, D, Pl, hcs, _, hl, hm, hmm, _, hx⟩
  · simp [Value.cells] at hcs
    obtain ⟨rfl, rfl, rfl⟩ := hcs
    exact ⟨none, 0, 0, [], rfl, Nat.zero_le _, StRow.nil _ _⟩
  · simp [Value.cells] at hcs
    obtain ⟨rfl, rfl, rfl⟩ := hcs
    have hlm : len ≤ m := by rw [hmm]; split <;> omega
    have each : ∀ i, i < len → ∃ s : St, ∀ j t, (stC s)[j]? = some t → w.cell? (x.add (i * 6 + j)) = some t := by
      intro i hi
      obtain ⟨cs, h1, h2⟩ := hx i (by omega)
      rw [hS] at h1
      obtain ⟨_, hlen, hcell⟩ := World.cells?_some h1
      match cs, hlen, h2, hcell with
      | [c0, c1, c2, c3, c4, c5], _, h2, hcell =>
        obtain ⟨y0, y1, y2, y3, m2, _, _, h0, h1', h2', h3⟩ := trod_struct4 Try.underlying90 h2
        simp [hI, hE] at h0 h1' h2' h3
        obtain ⟨z0, z1, z2, m3, _, _, h4, h5, h6⟩ := trod_struct3 Try.underlying67 h3
        simp [hI] at h4 h5 h6
        obtain ⟨k, e0, _, _⟩ := DataW.trod_int Try.underlying3 h0
        obtain ⟨v, e1, _, _⟩ := DataW.trod_int Try.underlying3 h1'
        obtain ⟨n', e2, _, _⟩ := DataW.trod_int Try.underlying3 h2'
        obtain ⟨o, e3, _, _⟩ := DataW.trod_int Try.underlying3 h4
        obtain ⟨a', e4, _, _⟩ := DataW.trod_int Try.underlying3 h5
        obtain ⟨b', e5, _, _⟩ := DataW.trod_int Try.underlying3 h6
        simp at e0 e1 e2 e3 e4 e5
        subst e0 e1 e2 e3 e4 e5
        refine ⟨⟨k, v, n', o, a', b'⟩, fun j t ht => ?_⟩
        have hj : j < 6 := by have := (List.getElem?_eq_some_iff.1 ht).1; simpa [stC] using this
        have := hcell j hj
        rw [add_add] at this
        rw [this]; exact ht
    obtain ⟨L, hL, hLs⟩ := list_of (P := fun i s => ∀ j t, (stC s)[j]? = some t → w.cell? (x.add (i * 6 + j)) = some t) len each
    refine ⟨some x, len, cap, L, rfl, by omega, hL, fun k hk => ?_⟩
    have hkL : k < L.length := by omega
    have h0L : 0 < L.length := by omega
    have hs : L[k]? = some L[k] := by simp [hkL]
    have hc := hLs k _ hs
    have hc00 := hLs 0 L[0] (by simp) 0 _ rfl
    obtain ⟨b, off, spot⟩ := x
    have hspot : spot = none := by simpa [Addr.add] using World.cell?_spot hc00
    subst hspot
    refine ⟨b, off, L[k], rfl, ?_, hs, fun j t ht => ?_⟩
    · have h0 := hc 0 _ rfl
      rw [Go.WideShapes.add_plain] at h0
      exact World.block_lt_of_cell? w _ h0
    · have h0 := hc j t ht
      rw [Go.WideShapes.add_plain, ← Nat.add_assoc] at h0
      exact h0
end Go.Proofs.Ytlicadaecfgklaa.opn
