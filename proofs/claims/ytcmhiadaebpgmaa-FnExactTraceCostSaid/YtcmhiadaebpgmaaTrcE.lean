/- What a law's argument is made of: a trace of the laws' own. -/
import Derived.Test.YtcmhiadaebpgmaaTrcL
namespace Go.Proofs.Ytcmhiadaebpgmaa.opn
open Go.ChangeShapes Go.WideShapes Go.ChangeAt Go.RowKit Go.Joins Go.Deep Go.Proofs.Ytcmhiadaebpgmaa.row Go.Proofs.Ytcmhiadaebpgmaa.trc Go.Proofs.Ytcmhiadaebpgmaa.grow

set_option maxRecDepth 100000 in
/-- One cell that reads as a slice of numbers. -/
theorem ints_trodT {H : Type} {enc : TypeId × Value → H} {w : World} {base : Nat} {spare : Nat → Bool} {held : Bool} {fuel : Nat} {c : Value} {x : DataW H × List MemPlace}
    (hf : DataW.trod enc Try.prog w base spare held fuel 23 [c] = some x) : ∃ (a : Option Addr) (len cap : Nat) (L : List Int), c = .slice a len cap ∧ len ≤ cap ∧ len ≤ maxLen ∧ Row w a len L := by
  have hI : Try.prog.cellsOf 3 = 1 := by kernel_rfl
  rcases open_slice Try.underlying23 hf with ⟨hcs, _⟩ | ⟨x, l, c', m, n, D, Pl, hcs, _, hl, hm, hmm, _, hx⟩
  · simp at hcs
    subst hcs
    exact ⟨none, 0, 0, [], rfl, Nat.le_refl _, Nat.zero_le _, Row.none_ _⟩
  · simp at hcs
    subst hcs
    have hlm : l ≤ m := by rw [hmm]; split <;> omega
    have each : ∀ i, i < l → ∃ s : Int, w.cell? (x.add i) = some (.int .i64 s) := by
      intro i hi
      obtain ⟨cs, h1, h2⟩ := hx i (by omega)
      rw [hI] at h1
      obtain ⟨_, hlen, hcell⟩ := World.cells?_some h1
      match cs, hlen, h2, hcell with
      | [c0], _, h2, hcell =>
        obtain ⟨k, e0, _, _⟩ := DataW.trod_int Try.underlying3 h2
        simp at e0
        subst e0
        have := hcell 0 (by omega)
        rw [add_add, Nat.mul_one, Nat.add_zero] at this
        exact ⟨k, by simpa using this⟩
    obtain ⟨L, hL, hLs⟩ := list_of (P := fun i s => w.cell? (x.add i) = some (.int .i64 s)) l each
    refine ⟨some x, l, c', L, rfl, hl, by omega, hL, fun k hk => ?_⟩
    have hkL : k < L.length := by omega
    have hs : L[k]? = some L[k] := by simp [hkL]
    have hc := hLs k _ hs
    have h0L : 0 < L.length := by omega
    have hc00 := hLs 0 L[0] (by simp)
    obtain ⟨b, off, spot⟩ := x
    have hspot : spot = none := by simpa [Addr.add] using World.cell?_spot hc00
    subst hspot
    rw [Go.WideShapes.add_plain] at hc
    exact ⟨b, off, L[k], rfl, World.block_lt_of_cell? w _ hc, hs, hc⟩
set_option maxRecDepth 100000 in
/-- One cell that reads as a slice of steps. -/
theorem micros_trod {H : Type} {enc : TypeId × Value → H} {w : World} {base : Nat} {spare : Nat → Bool} {held : Bool} {fuel : Nat} {c : Value} {y : DataW H × List MemPlace}
    (hf : DataW.trod enc Try.prog w base spare held fuel 22 [c] = some y) : ∃ (a : Option Addr) (len cap : Nat) (L : List Mic), c = .slice a len cap ∧ len ≤ cap ∧ len ≤ maxLen ∧ MicroRow w a len L ∧ MicOk L := by
  have hI : Try.prog.cellsOf 3 = 1 := by kernel_rfl
  have hS : Try.prog.cellsOf 59 = 3 := by kernel_rfl
  rcases open_slice Try.underlying22 hf with ⟨hcs, _⟩ | ⟨x, len, cap, m, n, D, Pl, hcs, _, hl, hm, hmm, _, hx⟩
  · simp at hcs
    subst hcs
    exact ⟨none, 0, 0, [], rfl, Nat.le_refl _, Nat.zero_le _, GRow.nil _ _ _ _, fun m hm => by cases hm⟩
  · simp at hcs
    subst hcs
    have hlm : len ≤ m := by rw [hmm]; split <;> omega
    have each : ∀ i, i < len → ∃ s : Mic, (∀ j t, (microC s)[j]? = some t → w.cell? (x.add (i * 3 + j)) = some t) ∧ (Lit.int .i64 s.c).wf = true ∧ (Lit.int .i64 s.a).wf = true ∧ (Lit.int .i64 s.v).wf = true := by
      intro i hi
      obtain ⟨cs, h1, h2⟩ := hx i (by omega)
      rw [hS] at h1
      obtain ⟨_, hlen, hcell⟩ := World.cells?_some h1
      match cs, hlen, h2, hcell with
      | [c0, c1, c2], _, h2, hcell =>
        obtain ⟨y0, y1, y2, m2, _, _, g0, g1, g2⟩ := trod_struct3 Try.underlying59 h2
        simp [hI] at g0 g1 g2
        obtain ⟨z0, e0, _, w0⟩ := DataW.trod_int Try.underlying3 g0
        obtain ⟨z1, e1, _, w1⟩ := DataW.trod_int Try.underlying3 g1
        obtain ⟨z2, e2, _, w2⟩ := DataW.trod_int Try.underlying3 g2
        simp at e0 e1 e2
        subst e0 e1 e2
        refine ⟨⟨z0, z1, z2⟩, fun j t ht => ?_, w0, w1, w2⟩
        have hj : j < 3 := by have := (List.getElem?_eq_some_iff.1 ht).1; simpa [microC] using this
        have := hcell j hj
        rw [add_add] at this
        rw [this]; exact ht
    obtain ⟨L, hL, hLs⟩ := list_of len each
    refine ⟨some x, len, cap, L, rfl, hl, by omega, ⟨hL, fun k hk => ?_⟩, fun s hs => ?_⟩
    · have hkL : k < L.length := by omega
      have h0L : 0 < L.length := by omega
      have hs : L[k]? = some L[k] := by simp [hkL]
      have hc := (hLs k _ hs).1
      have hc00 := (hLs 0 L[0] (by simp)).1 0 _ rfl
      obtain ⟨b, off, spot⟩ := x
      have hspot : spot = none := by simpa [Addr.add] using World.cell?_spot hc00
      subst hspot
      refine ⟨b, off, L[k], rfl, ?_, hs, fun j t ht => ?_⟩
      · have h0 := hc 0 _ rfl
        rw [Go.WideShapes.add_plain] at h0
        exact World.block_lt_of_cell? w _ h0
      · have h0 := hc j t ht
        rw [Go.WideShapes.add_plain, ← Nat.add_assoc] at h0
        exact h0
    · obtain ⟨i, hi, rfl⟩ := List.mem_iff_getElem.1 hs
      have h9 := (hLs i L[i] (by simp [hi])).2
      exact bounds_i64 h9.1
/-- A trace that came in. -/
def IsTraceV (w : World) (v : Value) : Prop := ∃ (a1 : Option Addr) (n1 c1 : Nat) (a2 : Option Addr) (n2 c2 : Nat) (M : List Mic) (U : List Int), v = .agg #[.slice a1 n1 c1, .slice a2 n2 c2] ∧ n1 ≤ maxLen ∧ n2 ≤ maxLen ∧ MicroRow w a1 n1 M ∧ Row w a2 n2 U ∧ MicOk M
set_option maxRecDepth 100000 in
theorem open_Trace {H : Type} {enc : TypeId × Value → H} {w : World} {base : Nat} {spare : Nat → Bool} {held : Bool} {r : Reach} {b0 : Nat} {v : Value} {d : DataW H} {p : List MemPlace}
    (hv : Value.okWide Try.prog w r b0 25 v) (h : DataW.Trod enc Try.prog w base spare held 25 v d p) : IsTraceV w v := by
  obtain ⟨⟨cs⟩, rfl, hsz⟩ := okWide_struct Try.underlying25 hv
  obtain ⟨fuel, hf⟩ := h
  have hM : Try.prog.cellsOf 22 = 1 := by kernel_rfl
  have hL : Try.prog.cellsOf 23 = 1 := by kernel_rfl
  have hC : Try.prog.cellsOf 25 = 2 := by kernel_rfl
  rw [hC] at hsz
  match cs, hsz, hf with
  | [c0, c1], _, hf =>
    obtain ⟨z0, z1, m3, _, _, h4, h5⟩ := trod_struct2 Try.underlying25 hf
    simp [Value.cells, hM, hL] at h4 h5
    obtain ⟨a1, n1, k1, M, rfl, _, hm1, hR1, hok⟩ := micros_trod h4
    obtain ⟨a2, n2, k2, U, rfl, _, hm2, hR2⟩ := ints_trodT h5
    exact ⟨a1, n1, k1, a2, n2, k2, M, U, rfl, hm1, hm2, hR1, hR2, hok⟩
end Go.Proofs.Ytcmhiadaebpgmaa.opn
