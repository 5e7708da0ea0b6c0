/- What a law's argument is made of: a boot of the laws' own (a slice of numbers, a number, a slice of slices of numbers, a number). -/
import Derived.Test.YtmgeecdgebemdaaSsA
import Derived.Test.YtmgeecdgebemdaaOpen
import Derived.Deep.Slices
namespace Go.Proofs.Ytmgeecdgebemdaa.opn
open Go.ChangeShapes Go.WideShapes Go.ChangeAt Go.RowKit Go.Joins Go.Deep Go.Proofs.Ytmgeecdgebemdaa.row Go.Proofs.Ytmgeecdgebemdaa.srow
theorem list_ofB {α : Type} {P : Nat → α → Prop} : ∀ n, (∀ i, i < n → ∃ s, P i s) → ∃ L : List α, L.length = n ∧ ∀ i s, L[i]? = some s → P i s
  | 0, _ => ⟨[], rfl, fun i s h => by simp at h⟩
  | n + 1, h => by
    obtain ⟨L, hl, hL⟩ := list_ofB n (fun i hi => h i (by omega))
    obtain ⟨s, hs⟩ := h n (by omega)
    refine ⟨L ++ [s], by simp [hl], fun i t ht => ?_⟩
    by_cases hi : i < L.length
    · rw [List.getElem?_append_left hi] at ht; exact hL i t ht
    · have hil := (List.getElem?_eq_some_iff.1 ht).1
      simp at hil
      obtain rfl : i = n := by omega
      rw [List.getElem?_append_right (by omega), hl, Nat.sub_self] at ht
      simp at ht; subst ht; exact hs
set_option maxRecDepth 100000 in
/-- One cell that reads as a slice of numbers. -/
theorem intsB_trod {H : Type} {enc : TypeId × Value → H} {w : World} {base : Nat} {spare : Nat → Bool} {held : Bool} {fuel : Nat} {c : Value} {x : DataW H × List MemPlace}
    (hf : DataW.trod enc Try.prog w base spare held fuel 22 [c] = some x) : ∃ (a : Option Addr) (len cap : Nat) (L : List Int), c = .slice a len cap ∧ len ≤ cap ∧ len ≤ maxLen ∧ Row w a len L := by
  have hI : Try.prog.cellsOf 3 = 1 := by kernel_rfl
  rcases open_slice Try.underlying22 hf with ⟨hcs, _⟩ | ⟨x, l, c', m, n, D, Pl, hcs, _, hl, hm, hmm, _, hx⟩
  · simp at hcs
    subst hcs
    exact ⟨none, 0, 0, [], rfl, Nat.le_refl _, Nat.zero_le _, Row.none_ _⟩
  · simp at hcs
    subst hcs
    have hlm : l ≤ m := by rw [hmm]; split <;> omega
    have each : ∀ i, i < l → ∃ s : Int, w.cell? (x.add i) = some (.int .i64 s) := by
      intro i hi
      obtain ⟨cs, h1, h2⟩ := hx i (by omega)
      rw [hI] at h1
      obtain ⟨_, hlen, hcell⟩ := World.cells?_some h1
      match cs, hlen, h2, hcell with
      | [c0], _, h2, hcell =>
        obtain ⟨k, e0, _, _⟩ := DataW.trod_int Try.underlying3 h2
        simp at e0
        subst e0
        have := hcell 0 (by omega)
        rw [add_add, Nat.mul_one, Nat.add_zero] at this
        exact ⟨k, by simpa using this⟩
    obtain ⟨L, hL, hLs⟩ := list_ofB (P := fun i s => w.cell? (x.add i) = some (.int .i64 s)) l each
    refine ⟨some x, l, c', L, rfl, hl, by omega, hL, fun k hk => ?_⟩
    have hkL : k < L.length := by omega
    have hs : L[k]? = some L[k] := by simp [hkL]
    have hc := hLs k _ hs
    have h0L : 0 < L.length := by omega
    have hc00 := hLs 0 L[0] (by simp)
    obtain ⟨b, off, spot⟩ := x
    have hspot : spot = none := by simpa [Addr.add] using World.cell?_spot hc00
    subst hspot
    rw [Go.WideShapes.add_plain] at hc
    exact ⟨b, off, L[k], rfl, World.block_lt_of_cell? w _ hc, hs, hc⟩
set_option maxRecDepth 100000 in
/-- One cell that reads as a slice of slices of numbers. -/
theorem intss_trod {H : Type} {enc : TypeId × Value → H} {w : World} {base : Nat} {spare : Nat → Bool} {held : Bool} {fuel : Nat} {c0 : Value} {y : DataW H × List MemPlace}
    (hf : DataW.trod enc Try.prog w base spare held fuel 23 [c0] = some y) : ∃ (a : Option Addr) (len cap : Nat) (LL : List (List Int)), c0 = .slice a len cap ∧ len ≤ cap ∧ len ≤ maxLen ∧ (∀ L ∈ LL, L.length ≤ maxLen) ∧ SRow w a len LL := by
  have hL : Try.prog.cellsOf 22 = 1 := by kernel_rfl
  rcases open_slice Try.underlying23 hf with ⟨hcs, _⟩ | ⟨x, len, cap, m, n, D, Pl, hcs, _, hl, hm, hmm, _, hx⟩
  · simp at hcs
    subst hcs
    exact ⟨none, 0, 0, [], rfl, Nat.le_refl _, Nat.zero_le _, (fun L hL => by cases hL), SRow.nil _ _⟩
  · simp at hcs
    subst hcs
    have hlm : len ≤ m := by rw [hmm]; split <;> omega
    have each : ∀ i, i < len → ∃ L : List Int, ∃ (ab : Option Addr) (nb cb : Nat), w.cell? (x.add i) = some (.slice ab nb cb) ∧ nb ≤ cb ∧ nb ≤ maxLen ∧ Row w ab nb L := by
      intro i hi
      obtain ⟨cs, h1, h2⟩ := hx i (by omega)
      rw [hL] at h1
      obtain ⟨_, hlen, hcell⟩ := World.cells?_some h1
      match cs, hlen, h2, hcell with
      | [c0], _, h2, hcell =>
        obtain ⟨ab, nb, cb, L, rfl, hbc, hbm, hB⟩ := intsB_trod h2
        have := hcell 0 (by omega)
        rw [add_add, Nat.mul_one, Nat.add_zero] at this
        exact ⟨L, ab, nb, cb, by simpa using this, hbc, hbm, hB⟩
    obtain ⟨LL, hLL, hLs⟩ := list_ofB (P := fun i L => ∃ (ab : Option Addr) (nb cb : Nat), w.cell? (x.add i) = some (.slice ab nb cb) ∧ nb ≤ cb ∧ nb ≤ maxLen ∧ Row w ab nb L) len each
    refine ⟨some x, len, cap, LL, rfl, hl, by omega, fun L hL => ?_, hLL, fun k hk => ?_⟩
    · obtain ⟨j, hj⟩ := List.mem_iff_getElem?.1 hL
      obtain ⟨_, nb, _, _, _, hnb, hB⟩ := hLs j L hj
      rw [hB.1]; exact hnb
    have hkL : k < LL.length := by omega
    have hs : LL[k]? = some LL[k] := by simp [hkL]
    obtain ⟨ab, nb, cb, hc, hbc, _, hB⟩ := hLs k _ hs
    have h0L : 0 < LL.length := by omega
    obtain ⟨ab0, nb0, cb0, hc00, _⟩ := hLs 0 LL[0] (by simp)
    obtain ⟨b, off, spot⟩ := x
    have hspot : spot = none := by simpa [Addr.add] using World.cell?_spot hc00
    subst hspot
    rw [Go.WideShapes.add_plain] at hc
    exact ⟨b, off, LL[k], ab, nb, cb, rfl, World.block_lt_of_cell? w _ hc, hs, hc, hbc, hB⟩
/-- A boot that came in. -/
def IsBotV (w : World) (v : Value) : Prop := ∃ (a1 : Option Addr) (n1 c1 : Nat) (a2 : Option Addr) (n2 c2 : Nat) (V : List Int) (U : List (List Int)) (z e : Int), v = .agg #[.slice a1 n1 c1, .int .i64 z, .slice a2 n2 c2, .int .i64 e] ∧ n1 ≤ maxLen ∧ n2 ≤ maxLen ∧ (∀ L ∈ U, L.length ≤ maxLen) ∧ Row w a1 n1 V ∧ SRow w a2 n2 U
set_option maxRecDepth 100000 in
theorem open_Boot {H : Type} {enc : TypeId × Value → H} {w : World} {base : Nat} {spare : Nat → Bool} {held : Bool} {r : Reach} {b0 : Nat} {v : Value} {d : DataW H} {p : List MemPlace}
    (hv : Value.okWide Try.prog w r b0 25 v) (h : DataW.Trod enc Try.prog w base spare held 25 v d p) : IsBotV w v := by
  obtain ⟨⟨cs⟩, rfl, hsz⟩ := okWide_struct Try.underlying25 hv
  obtain ⟨fuel, hf⟩ := h
  have hI : Try.prog.cellsOf 3 = 1 := by kernel_rfl
  have hL : Try.prog.cellsOf 22 = 1 := by kernel_rfl
  have hS : Try.prog.cellsOf 23 = 1 := by kernel_rfl
  have hC : Try.prog.cellsOf 25 = 4 := by kernel_rfl
  rw [hC] at hsz
  match cs, hsz, hf with
  | [c0, c1, c2, c3], _, hf =>
    obtain ⟨z0, z1, z2, z3, m3, _, _, h4, h5, h6, h7⟩ := trod_struct4 Try.underlying25 hf
    simp [Value.cells, hI, hL, hS] at h4 h5 h6 h7
    obtain ⟨a1, n1, k1, V, rfl, _, hm1, hV⟩ := intsB_trod h4
    obtain ⟨z, e5, _, _⟩ := DataW.trod_int Try.underlying3 h5
    obtain ⟨a2, n2, k2, U, rfl, _, hm2, hmm, hU⟩ := intss_trod h6
    obtain ⟨q, e7, _, _⟩ := DataW.trod_int Try.underlying3 h7
    simp at e5 e7
    subst e5 e7
    exact ⟨a1, n1, k1, a2, n2, k2, V, U, z, q, rfl, hm1, hm2, hmm, hV, hU⟩
end Go.Proofs.Ytmgeecdgebemdaa.opn
