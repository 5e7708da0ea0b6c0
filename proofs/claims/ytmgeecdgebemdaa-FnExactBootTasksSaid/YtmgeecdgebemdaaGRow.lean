/- Rows of structs of 'm' cells each: what it is for a slice to read as a list of them, for every kind of struct at once. -/
import Derived.Test.YtmgeecdgebemdaaBox
namespace Go.Proofs.Ytmgeecdgebemdaa.grow
open Go Go.ChangeShapes Go.WideShapes Go.ChangeAt Go.RowKit Go.Proofs.Ytmgeecdgebemdaa.row

/-- The slice at 'a' of 'n' elements of 'm' cells each reads as the list 'L'. -/
def GRow {α : Type} (C : α → List Value) (m : Nat) (w : World) (a : Option Addr) (n : Nat) (L : List α) : Prop :=
  L.length = n ∧ ∀ k, k < n → ∃ (b off : Nat) (s : α), a = some ⟨b, off, none⟩ ∧ b < w.heap.size ∧ L[k]? = some s ∧ w.rangeAt b (off + k * m) (C s)
theorem GRow.below {α : Type} {C : α → List Value} {m : Nat} {w w' : World} {a : Option Addr} {n : Nat} {L : List α} (h : GRow C m w a n L) (hb : Below w.heap.size w w') : GRow C m w' a n L :=
  ⟨h.1, fun k hk => by
    obtain ⟨b, off, s, rfl, hlt, hs, hr⟩ := h.2 k hk
    exact ⟨b, off, s, rfl, Nat.lt_of_lt_of_le hlt hb.size, hs, fun j v hv => (hb.cell (p := ⟨b, off + k * m + j, none⟩) hlt).trans (hr j v hv)⟩⟩
theorem GRow.grown {α : Type} {C : α → List Value} {m : Nat} {w w' : World} {r : Option Nat} {a : Option Addr} {n : Nat} {L : List α} (h : GRow C m w a n L) (hg : w.grownBy w' r) (hne : ∀ b off, a = some ⟨b, off, none⟩ → some b ≠ r) : GRow C m w' a n L :=
  ⟨h.1, fun k hk => by
    obtain ⟨b, off, s, rfl, hlt, hs, hr⟩ := h.2 k hk
    exact ⟨b, off, s, rfl, Nat.lt_of_lt_of_le hlt hg.size, hs, fun j v hv => hg.cell (hr j v hv) (hne b off rfl)⟩⟩
theorem GRow.nil {α : Type} (C : α → List Value) (m : Nat) (w : World) (a : Option Addr) : GRow C m w a 0 ([] : List α) := ⟨rfl, fun k hk => by omega⟩
theorem GRow.take {α : Type} {C : α → List Value} {m : Nat} {w : World} {a : Option Addr} {n : Nat} {L : List α} (h : GRow C m w a n L) (k : Nat) (hk : k ≤ n) : GRow C m w a k (L.take k) :=
  ⟨by rw [List.length_take, h.1]; omega, fun j hj => by
    obtain ⟨b, off, s, e, hlt, hs, hr⟩ := h.2 j (by omega)
    exact ⟨b, off, s, e, hlt, by rw [List.getElem?_take, if_pos hj]; exact hs, hr⟩⟩
theorem GRow.drop {α : Type} {C : α → List Value} {m : Nat} {w : World} {b off n : Nat} {L : List α} (h : GRow C m w (some ⟨b, off, none⟩) n L) (o : Nat) (ho : o ≤ n) : GRow C m w (some ⟨b, off + o * m, none⟩) (n - o) (L.drop o) :=
  ⟨by rw [List.length_drop, h.1], fun j hj => by
    obtain ⟨b', off', s, e, hlt, hs, hr⟩ := h.2 (o + j) (by omega)
    cases e
    exact ⟨b, off + o * m, s, rfl, hlt, by rw [List.getElem?_drop]; exact hs, by rw [show off + o * m + j * m = off + (o + j) * m by rw [Nat.add_mul]; omega]; exact hr⟩⟩

/-- The cells of a list of structs. -/
def gcs {α : Type} (C : α → List Value) (L : List α) : List Value := L.flatMap C
theorem gcs_len {α : Type} {C : α → List Value} {m : Nat} (hC : ∀ s, (C s).length = m) (L : List α) : (gcs C L).length = L.length * m := by
  induction L with
  | nil => simp [gcs]
  | cons s L ih => simp only [gcs, List.flatMap_cons, List.length_append, List.length_cons] at *; rw [ih, hC, Nat.add_mul]; omega
theorem gcs_app {α : Type} (C : α → List Value) (L M : List α) : gcs C (L ++ M) = gcs C L ++ gcs C M := by simp [gcs]
theorem gcs_one {α : Type} (C : α → List Value) (s : α) : gcs C [s] = C s := by simp [gcs]
theorem gcs_at {α : Type} {C : α → List Value} {m : Nat} (hC : ∀ s, (C s).length = m) {L : List α} {i : Nat} {s : α} (h : L[i]? = some s) (j : Nat) (hj : j < m) : (gcs C L)[i * m + j]? = (C s)[j]? := by
  induction L generalizing i with
  | nil => simp at h
  | cons t L ih =>
    have e : gcs C (t :: L) = C t ++ gcs C L := by simp [gcs]
    have lm : (C t).length = m := hC t
    cases i with
    | zero =>
      simp at h; subst h
      rw [e, List.getElem?_append_left (by omega)]; congr 1; omega
    | succ i =>
      simp at h
      rw [e, List.getElem?_append_right (by rw [lm, Nat.add_mul]; omega), lm, show (i + 1) * m + j - m = i * m + j by rw [Nat.add_mul]; omega]
      exact ih h
theorem GRow.of_box {α : Type} {C : α → List Value} {m : Nat} (hC : ∀ s, (C s).length = m) {w : World} {g n : Nat} {L : List α} {t : TypeId} (h : Box g (gcs C L).toArray t w) (hl : L.length = n) : GRow C m w (some ⟨g, 0, none⟩) n L :=
  ⟨hl, fun k hk => ⟨g, 0, L[k]'(by omega), rfl, h.lt, by simp [show k < L.length by omega], fun j v hv => by
    have hj : j < m := by have := (List.getElem?_eq_some_iff.1 hv).1; rwa [hC] at this
    have h2 := gcs_at hC (L := L) (i := k) (s := L[k]'(by omega)) (by simp [show k < L.length by omega]) j hj
    rw [show 0 + k * m + j = k * m + j by omega, h.cell, List.getElem?_toArray, h2, hv]⟩⟩
theorem GRow.of_own {α : Type} {C : α → List Value} {m : Nat} (hC : ∀ s, (C s).length = m) {w : World} {base : Nat} {a : Option Addr} {n cap : Nat} {L : List α} {t : TypeId} (hm : 0 < m) (h : w.ownsRow base t m (.slice a n cap) n (gcs C L)) : GRow C m w a n L := by
  have hl : L.length = n := by have := h.1; rw [gcs_len hC] at this; exact Nat.eq_of_mul_eq_mul_right hm this
  refine ⟨hl, fun k hk => ?_⟩
  obtain ⟨g, c, hv, _, hg⟩ := h.form (by omega)
  injection hv with h1 h2 h3
  subst h1
  refine ⟨g, 0, L[k], rfl, hg, by simp [hl, hk], fun j v hjv => ?_⟩
  have hj : j < m := by have := (List.getElem?_eq_some_iff.1 hjv).1; rwa [hC] at this
  have h4 := gcs_at hC (L := L) (i := k) (s := L[k]) (by simp [hl, hk]) j hj
  have hlt : k * m + j < n * m := by
    have : (k + 1) * m ≤ n * m := Nat.mul_le_mul_right m hk
    rw [Nat.add_mul] at this; omega
  rw [show 0 + k * m + j = k * m + j by omega, h.cellAt (k * m + j) hlt, h4, hjv]
theorem setAll_mid : ∀ (vs A B C : List Value), B.length = vs.length → setAll (A ++ (B ++ C)).toArray A.length vs = (A ++ (vs ++ C)).toArray
  | [], A, B, C, h => by
    obtain rfl : B = [] := List.eq_nil_of_length_eq_zero h
    rfl
  | v :: r, A, b :: B, C, h => by
    have e : (A ++ (b :: B ++ C)).toArray.setIfInBounds A.length v = ((A ++ [v]) ++ (B ++ C)).toArray := by
      simp [List.setIfInBounds_toArray, List.set_append_right]
    show setAll ((A ++ (b :: B ++ C)).toArray.setIfInBounds A.length v) (A.length + 1) r = _
    rw [e]
    have := setAll_mid r (A ++ [v]) B C (by simpa using h)
    rw [List.length_append, List.length_singleton] at this
    rw [this]; simp
  | _ :: _, _, [], _, h => by simp at h
theorem copy_next {α : Type} {C : α → List Value} {m : Nat} (hC : ∀ s, (C s).length = m) {L : List α} {n k : Nat} {s : α} (z : Value) (hl : L.length = n) (hk : k < n) (hs : L[k]? = some s) :
    setAll (gcs C (L.take k) ++ List.replicate ((n - k) * m) z).toArray (k * m) (C s) = (gcs C (L.take (k + 1)) ++ List.replicate ((n - (k + 1)) * m) z).toArray := by
  have e1 : (n - k) * m = m + (n - (k + 1)) * m := by rw [show n - k = (n - (k + 1)) + 1 by omega, Nat.add_mul]; omega
  have e2 : k * m = (gcs C (L.take k)).length := by rw [gcs_len hC, List.length_take, Nat.min_eq_left (by omega)]
  rw [e1, ← List.replicate_append_replicate, e2, setAll_mid _ _ _ _ (by simp [hC])]
  rw [List.take_add_one, hs, gcs_app]
  simp [gcs]
theorem own_box {w : World} {base g n m : Nat} {t : TypeId} {xs : List Value} (h : w.ownsRow base t m (.slice (some ⟨g, 0, none⟩) n n) n xs) : Box g xs.toArray t w := by
  rcases h.2 with ⟨h0, _⟩ | ⟨g', cap, cur, hv, _, hg, _, _, hs, ht⟩
  · simp at h0
  · simp only [Value.slice.injEq, Option.some.injEq, Addr.mk.injEq, and_true, true_and] at hv
    obtain ⟨rfl, rfl⟩ := hv
    have e : xs = cur.toList := by rw [← ht]; exact List.take_of_length_le (by rw [Array.length_toList, hs]; exact Nat.le_refl _)
    unfold Box
    rw [e, Array.toArray_toList]; exact hg
theorem made_same {zs : Array Value} {z : Value} (hm : 0 < zs.size) (hz : ∀ i, i < zs.size → zs[i]! = z) (n : Nat) : (madeCells zs n).toList = List.replicate n z := by
  apply List.ext_getElem?
  intro j
  by_cases hj : j < n
  · rw [List.getElem?_replicate, if_pos hj]
    simp only [madeCells, Array.toList_map, List.getElem?_map, Array.toList_range, List.getElem?_range hj, Option.map_some]
    rw [hz _ (Nat.mod_lt _ hm)]
  · rw [List.getElem?_eq_none (by rw [Array.length_toList, size_madeCells]; omega), List.getElem?_eq_none (by rw [List.length_replicate]; omega)]
theorem range_lt {w : World} {g o : Nat} {cs : List Value} (h : w.rangeAt g o cs) (hp : 0 < cs.length) : g < w.heap.size :=
  World.block_lt_of_cell? w ⟨g, o + 0, none⟩ (h 0 _ (by rw [List.getElem?_eq_getElem hp]))
theorem range_below {w w' : World} {g o : Nat} {cs : List Value} (h : w.rangeAt g o cs) (hg : g < w.heap.size) (hb : Below w.heap.size w w') : w'.rangeAt g o cs :=
  fun j v hv => (hb.cell (p := ⟨g, o + j, none⟩) hg).trans (h j v hv)
theorem setAll_size : ∀ (vs : List Value) (cs : Array Value) (o : Nat), (setAll cs o vs).size = cs.size
  | [], _, _ => rfl
  | v :: r, cs, o => by show (setAll (cs.setIfInBounds o v) (o + 1) r).size = _; rw [setAll_size r]; simp
theorem setAll_out : ∀ (vs : List Value) (cs : Array Value) (o j : Nat), j < o ∨ o + vs.length ≤ j → (setAll cs o vs)[j]? = cs[j]?
  | [], _, _, _, _ => rfl
  | v :: r, cs, o, j, h => by
    show (setAll (cs.setIfInBounds o v) (o + 1) r)[j]? = _
    rw [setAll_out r _ _ _ (by simp at h; omega)]
    rw [Array.getElem?_setIfInBounds_ne (by simp at h; omega)]
theorem setAll_in : ∀ (vs : List Value) (cs : Array Value) (o i : Nat), i < vs.length → o + vs.length ≤ cs.size → (setAll cs o vs)[o + i]? = vs[i]?
  | [], _, _, _, h, _ => by simp at h
  | v :: r, cs, o, 0, _, hs => by
    show (setAll (cs.setIfInBounds o v) (o + 1) r)[o + 0]? = _
    rw [setAll_out r _ _ _ (by omega)]
    simp at hs
    simp [show o < cs.size by omega]
  | v :: r, cs, o, i + 1, h, hs => by
    show (setAll (cs.setIfInBounds o v) (o + 1) r)[o + (i + 1)]? = _
    have := setAll_in r (cs.setIfInBounds o v) (o + 1) i (by simpa using h) (by simp at hs ⊢; omega)
    rw [show o + (i + 1) = o + 1 + i by omega, this]; simp
/-- The cells from 0 to 'q' hold the numbers from 'k' on. -/
def Nums (cs : Array Value) (k : Int) (q : Nat) : Prop := ∀ j : Nat, j < q → cs[j]? = some (.int .i64 (k + j))
theorem list_of {α : Type} {P : Nat → α → Prop} : ∀ n, (∀ i, i < n → ∃ s, P i s) → ∃ L : List α, L.length = n ∧ ∀ i s, L[i]? = some s → P i s
  | 0, _ => ⟨[], rfl, fun i s h => by simp at h⟩
  | n + 1, h => by
    obtain ⟨L, hl, hL⟩ := list_of n (fun i hi => h i (by omega))
    obtain ⟨s, hs⟩ := h n (by omega)
    refine ⟨L ++ [s], by simp [hl], fun i t ht => ?_⟩
    by_cases hi : i < L.length
    · rw [List.getElem?_append_left hi] at ht; exact hL i t ht
    · have hil := (List.getElem?_eq_some_iff.1 ht).1
      simp at hil
      obtain rfl : i = n := by omega
      rw [List.getElem?_append_right (by omega), hl, Nat.sub_self] at ht
      simp at ht; subst ht; exact hs
end Go.Proofs.Ytmgeecdgebemdaa.grow
