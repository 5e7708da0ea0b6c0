/- Several texts in one: GRow SsA ReadC RefP ExeN. -/
import Derived.Test.YtekdnhhmiabngaaGHub0
import Derived.Test.YtekdnhhmiabngaaGHub2
import Derived.Deep.RegionHeld3
import Derived.Test.YtekdnhhmiabngaaGHub4
import Derived.Deep.AppendLies
import Derived.WalkSpells
import Derived.Test.YtekdnhhmiabngaaGHub10
import Derived.Test.YtekdnhhmiabngaaGHub9

/- Rows of structs of 'm' cells each: what it is for a slice to read as a list of them, for every kind of struct at once. -/
namespace Go.Proofs.Ytekdnhhmiabngaa.grow
open Go Go.ChangeShapes Go.WideShapes Go.ChangeAt Go.RowKit Go.Proofs.Ytekdnhhmiabngaa.row

/-- The slice at 'a' of 'n' elements of 'm' cells each reads as the list 'L'. -/
def GRow {α : Type} (C : α → List Value) (m : Nat) (w : World) (a : Option Addr) (n : Nat) (L : List α) : Prop :=
  L.length = n ∧ ∀ k, k < n → ∃ (b off : Nat) (s : α), a = some ⟨b, off, none⟩ ∧ b < w.heap.size ∧ L[k]? = some s ∧ w.rangeAt b (off + k * m) (C s)
theorem GRow.below {α : Type} {C : α → List Value} {m : Nat} {w w' : World} {a : Option Addr} {n : Nat} {L : List α} (h : GRow C m w a n L) (hb : Below w.heap.size w w') : GRow C m w' a n L :=
  ⟨h.1, fun k hk => by
    obtain ⟨b, off, s, rfl, hlt, hs, hr⟩ := h.2 k hk
    exact ⟨b, off, s, rfl, Nat.lt_of_lt_of_le hlt hb.size, hs, fun j v hv => (hb.cell (p := ⟨b, off + k * m + j, none⟩) hlt).trans (hr j v hv)⟩⟩
theorem GRow.grown {α : Type} {C : α → List Value} {m : Nat} {w w' : World} {r : Option Nat} {a : Option Addr} {n : Nat} {L : List α} (h : GRow C m w a n L) (hg : w.grownBy w' r) (hne : ∀ b off, a = some ⟨b, off, none⟩ → some b ≠ r) : GRow C m w' a n L :=
  ⟨h.1, fun k hk => by
    obtain ⟨b, off, s, rfl, hlt, hs, hr⟩ := h.2 k hk
    exact ⟨b, off, s, rfl, Nat.lt_of_lt_of_le hlt hg.size, hs, fun j v hv => hg.cell (hr j v hv) (hne b off rfl)⟩⟩
theorem GRow.nil {α : Type} (C : α → List Value) (m : Nat) (w : World) (a : Option Addr) : GRow C m w a 0 ([] : List α) := ⟨rfl, fun k hk => by omega⟩
theorem GRow.take {α : Type} {C : α → List Value} {m : Nat} {w : World} {a : Option Addr} {n : Nat} {L : List α} (h : GRow C m w a n L) (k : Nat) (hk : k ≤ n) : GRow C m w a k (L.take k) :=
  ⟨by rw [List.length_take, h.1]; omega, fun j hj => by
    obtain ⟨b, off, s, e, hlt, hs, hr⟩ := h.2 j (by omega)
    exact ⟨b, off, s, e, hlt, by rw [List.getElem?_take, if_pos hj]; exact hs, hr⟩⟩
theorem GRow.drop {α : Type} {C : α → List Value} {m : Nat} {w : World} {b off n : Nat} {L : List α} (h : GRow C m w (some ⟨b, off, none⟩) n L) (o : Nat) (ho : o ≤ n) : GRow C m w (some ⟨b, off + o * m, none⟩) (n - o) (L.drop o) :=
  ⟨by rw [List.length_drop, h.1], fun j hj => by
    obtain ⟨b', off', s, e, hlt, hs, hr⟩ := h.2 (o + j) (by omega)
    cases e
    exact ⟨b, off + o * m, s, rfl, hlt, by rw [List.getElem?_drop]; exact hs, by rw [show off + o * m + j * m = off + (o + j) * m by rw [Nat.add_mul]; omega]; exact hr⟩⟩

/-- The cells of a list of structs. -/
def gcs {α : Type} (C : α → List Value) (L : List α) : List Value := L.flatMap C
theorem gcs_len {α : Type} {C : α → List Value} {m : Nat} (hC : ∀ s, (C s).length = m) (L : List α) : (gcs C L).length = L.length * m := by
  induction L with
  | nil => simp [gcs]
  | cons s L ih => simp only [gcs, List.flatMap_cons, List.length_append, List.length_cons] at *; rw [ih, hC, Nat.add_mul]; omega
theorem gcs_app {α : Type} (C : α → List Value) (L M : List α) : gcs C (L ++ M) = gcs C L ++ gcs C M := by simp [gcs]
theorem gcs_one {α : Type} (C : α → List Value) (s : α) : gcs C [s] = C s := by simp [gcs]
theorem gcs_at {α : Type} {C : α → List Value} {m : Nat} (hC : ∀ s, (C s).length = m) {L : List α} {i : Nat} {s : α} (h : L[i]? = some s) (j : Nat) (hj : j < m) : (gcs C L)[i * m + j]? = (C s)[j]? := by
  induction L generalizing i with
  | nil => simp at h
  | cons t L ih =>
    have e : gcs C (t :: L) = C t ++ gcs C L := by simp [gcs]
    have lm : (C t).length = m := hC t
    cases i with
    | zero =>
      simp at h; subst h
      rw [e, List.getElem?_append_left (by omega)]; congr 1; omega
    | succ i =>
      simp at h
      rw [e, List.getElem?_append_right (by rw [lm, Nat.add_mul]; omega), lm, show (i + 1) * m + j - m = i * m + j by rw [Nat.add_mul]; omega]
      exact ih h
theorem GRow.of_box {α : Type} {C : α → List Value} {m : Nat} (hC : ∀ s, (C s).length = m) {w : World} {g n : Nat} {L : List α} {t : TypeId} (h : Box g (gcs C L).toArray t w) (hl : L.length = n) : GRow C m w (some ⟨g, 0, none⟩) n L :=
  ⟨hl, fun k hk => ⟨g, 0, L[k]'(by omega), rfl, h.lt, by simp [show k < L.length by omega], fun j v hv => by
    have hj : j < m := by have := (List.getElem?_eq_some_iff.1 hv).1; rwa [hC] at this
    have h2 := gcs_at hC (L := L) (i := k) (s := L[k]'(by omega)) (by simp [show k < L.length by omega]) j hj
    rw [show 0 + k * m + j = k * m + j by omega, h.cell, List.getElem?_toArray, h2, hv]⟩⟩
theorem GRow.of_own {α : Type} {C : α → List Value} {m : Nat} (hC : ∀ s, (C s).length = m) {w : World} {base : Nat} {a : Option Addr} {n cap : Nat} {L : List α} {t : TypeId} (hm : 0 < m) (h : w.ownsRow base t m (.slice a n cap) n (gcs C L)) : GRow C m w a n L := by
  have hl : L.length = n := by have := h.1; rw [gcs_len hC] at this; exact Nat.eq_of_mul_eq_mul_right hm this
  refine ⟨hl, fun k hk => ?_⟩
  obtain ⟨g, c, hv, _, hg⟩ := h.form (by omega)
  injection hv with h1 h2 h3
  subst h1
  refine ⟨g, 0, L[k], rfl, hg, by simp [hl, hk], fun j v hjv => ?_⟩
  have hj : j < m := by have := (List.getElem?_eq_some_iff.1 hjv).1; rwa [hC] at this
  have h4 := gcs_at hC (L := L) (i := k) (s := L[k]) (by simp [hl, hk]) j hj
  have hlt : k * m + j < n * m := by
    have : (k + 1) * m ≤ n * m := Nat.mul_le_mul_right m hk
    rw [Nat.add_mul] at this; omega
  rw [show 0 + k * m + j = k * m + j by omega, h.cellAt (k * m + j) hlt, h4, hjv]
theorem setAll_mid : ∀ (vs A B C : List Value), B.length = vs.length → setAll (A ++ (B ++ C)).toArray A.length vs = (A ++ (vs ++ C)).toArray
  | [], A, B, C, h => by
    obtain rfl : B = [] := List.eq_nil_of_length_eq_zero h
    rfl
  | v :: r, A, b :: B, C, h => by
    have e : (A ++ (b :: B ++ C)).toArray.setIfInBounds A.length v = ((A ++ [v]) ++ (B ++ C)).toArray := by
      simp [List.setIfInBounds_toArray, List.set_append_right]
    show setAll ((A ++ (b :: B ++ C)).toArray.setIfInBounds A.length v) (A.length + 1) r = _
    rw [e]
    have := setAll_mid r (A ++ [v]) B C (by simpa using h)
    rw [List.length_append, List.length_singleton] at this
    rw [this]; simp
  | _ :: _, _, [], _, h => by simp at h
theorem copy_next {α : Type} {C : α → List Value} {m : Nat} (hC : ∀ s, (C s).length = m) {L : List α} {n k : Nat} {s : α} (z : Value) (hl : L.length = n) (hk : k < n) (hs : L[k]? = some s) :
    setAll (gcs C (L.take k) ++ List.replicate ((n - k) * m) z).toArray (k * m) (C s) = (gcs C (L.take (k + 1)) ++ List.replicate ((n - (k + 1)) * m) z).toArray := by
  have e1 : (n - k) * m = m + (n - (k + 1)) * m := by rw [show n - k = (n - (k + 1)) + 1 by omega, Nat.add_mul]; omega
  have e2 : k * m = (gcs C (L.take k)).length := by rw [gcs_len hC, List.length_take, Nat.min_eq_left (by omega)]
  rw [e1, ← List.replicate_append_replicate, e2, setAll_mid _ _ _ _ (by simp [hC])]
  rw [List.take_add_one, hs, gcs_app]
  simp [gcs]
theorem own_box {w : World} {base g n m : Nat} {t : TypeId} {xs : List Value} (h : w.ownsRow base t m (.slice (some ⟨g, 0, none⟩) n n) n xs) : Box g xs.toArray t w := by
  rcases h.2 with ⟨h0, _⟩ | ⟨g', cap, cur, hv, _, hg, _, _, hs, ht⟩
  · simp at h0
  · simp only [Value.slice.injEq, Option.some.injEq, Addr.mk.injEq, and_true, true_and] at hv
    obtain ⟨rfl, rfl⟩ := hv
    have e : xs = cur.toList := by rw [← ht]; exact List.take_of_length_le (by rw [Array.length_toList, hs]; exact Nat.le_refl _)
    unfold Box
    rw [e, Array.toArray_toList]; exact hg
theorem made_same {zs : Array Value} {z : Value} (hm : 0 < zs.size) (hz : ∀ i, i < zs.size → zs[i]! = z) (n : Nat) : (madeCells zs n).toList = List.replicate n z := by
  apply List.ext_getElem?
  intro j
  by_cases hj : j < n
  · rw [List.getElem?_replicate, if_pos hj]
    simp only [madeCells, Array.toList_map, List.getElem?_map, Array.toList_range, List.getElem?_range hj, Option.map_some]
    rw [hz _ (Nat.mod_lt _ hm)]
  · rw [List.getElem?_eq_none (by rw [Array.length_toList, size_madeCells]; omega), List.getElem?_eq_none (by rw [List.length_replicate]; omega)]
theorem range_lt {w : World} {g o : Nat} {cs : List Value} (h : w.rangeAt g o cs) (hp : 0 < cs.length) : g < w.heap.size :=
  World.block_lt_of_cell? w ⟨g, o + 0, none⟩ (h 0 _ (by rw [List.getElem?_eq_getElem hp]))
theorem range_below {w w' : World} {g o : Nat} {cs : List Value} (h : w.rangeAt g o cs) (hg : g < w.heap.size) (hb : Below w.heap.size w w') : w'.rangeAt g o cs :=
  fun j v hv => (hb.cell (p := ⟨g, o + j, none⟩) hg).trans (h j v hv)
theorem setAll_size : ∀ (vs : List Value) (cs : Array Value) (o : Nat), (setAll cs o vs).size = cs.size
  | [], _, _ => rfl
  | v :: r, cs, o => by show (setAll (cs.setIfInBounds o v) (o + 1) r).size = _; rw [setAll_size r]; simp
theorem setAll_out : ∀ (vs : List Value) (cs : Array Value) (o j : Nat), j < o ∨ o + vs.length ≤ j → (setAll cs o vs)[j]? = cs[j]?
  | [], _, _, _, _ => rfl
  | v :: r, cs, o, j, h => by
    show (setAll (cs.setIfInBounds o v) (o + 1) r)[j]? = _
    rw [setAll_out r _ _ _ (by simp at h; omega)]
    rw [Array.getElem?_setIfInBounds_ne (by simp at h; omega)]
theorem setAll_in : ∀ (vs : List Value) (cs : Array Value) (o i : Nat), i < vs.length → o + vs.length ≤ cs.size → (setAll cs o vs)[o + i]? = vs[i]?
  | [], _, _, _, h, _ => by simp at h
  | v :: r, cs, o, 0, _, hs => by
    show (setAll (cs.setIfInBounds o v) (o + 1) r)[o + 0]? = _
    rw [setAll_out r _ _ _ (by omega)]
    simp at hs
    simp [show o < cs.size by omega]
  | v :: r, cs, o, i + 1, h, hs => by
    show (setAll (cs.setIfInBounds o v) (o + 1) r)[o + (i + 1)]? = _
    have := setAll_in r (cs.setIfInBounds o v) (o + 1) i (by simpa using h) (by simp at hs ⊢; omega)
    rw [show o + (i + 1) = o + 1 + i by omega, this]; simp
/-- The cells from 0 to 'q' hold the numbers from 'k' on. -/
def Nums (cs : Array Value) (k : Int) (q : Nat) : Prop := ∀ j : Nat, j < q → cs[j]? = some (.int .i64 (k + j))
theorem list_of {α : Type} {P : Nat → α → Prop} : ∀ n, (∀ i, i < n → ∃ s, P i s) → ∃ L : List α, L.length = n ∧ ∀ i s, L[i]? = some s → P i s
  | 0, _ => ⟨[], rfl, fun i s h => by simp at h⟩
  | n + 1, h => by
    obtain ⟨L, hl, hL⟩ := list_of n (fun i hi => h i (by omega))
    obtain ⟨s, hs⟩ := h n (by omega)
    refine ⟨L ++ [s], by simp [hl], fun i t ht => ?_⟩
    by_cases hi : i < L.length
    · rw [List.getElem?_append_left hi] at ht; exact hL i t ht
    · have hil := (List.getElem?_eq_some_iff.1 ht).1
      simp at hil
      obtain rfl : i = n := by omega
      rw [List.getElem?_append_right (by omega), hl, Nat.sub_self] at ht
      simp at ht; subst ht; exact hs
end Go.Proofs.Ytekdnhhmiabngaa.grow

/- Rows of rows of numbers: a slice of slices that reads as a list of lists; the law's own copy, size and comparison of such a slice. -/
namespace Go.Proofs.Ytekdnhhmiabngaa.srow
open Go Go.ChangeShapes Go.WideShapes Go.ChangeAt Go.RowKit Go.Proofs.Ytekdnhhmiabngaa.row Go.Proofs.Ytekdnhhmiabngaa.val Go.Proofs.Ytekdnhhmiabngaa.expr

/-- The slice at 'a' of 'n' slices reads as the list 'LL'. -/
def SRow (w : World) (a : Option Addr) (n : Nat) (LL : List (List Int)) : Prop :=
  LL.length = n ∧ ∀ k, k < n → ∃ (g off : Nat) (L : List Int) (ab : Option Addr) (nb cb : Nat), a = some ⟨g, off, none⟩ ∧ g < w.heap.size ∧ LL[k]? = some L ∧ w.cell? ⟨g, off + k, none⟩ = some (.slice ab nb cb) ∧ nb ≤ cb ∧ Row w ab nb L
theorem SRow.below {w w' : World} {a : Option Addr} {n : Nat} {LL : List (List Int)} (h : SRow w a n LL) (hb : Below w.heap.size w w') : SRow w' a n LL :=
  ⟨h.1, fun k hk => by
    obtain ⟨g, off, L, ab, nb, cb, e, hlt, hL, hc, hle, hr⟩ := h.2 k hk
    exact ⟨g, off, L, ab, nb, cb, e, Nat.lt_of_lt_of_le hlt hb.size, hL, (hb.cell (p := ⟨g, off + k, none⟩) hlt).trans hc, hle, hr.below hb⟩⟩
theorem SRow.nil (w : World) (a : Option Addr) : SRow w a 0 [] := ⟨rfl, fun k hk => by omega⟩
/-- No list is longer than this. -/
def SSizes (LL : List (List Int)) : Prop := LL.length ≤ 1048576 ∧ ∀ L ∈ LL, L.length ≤ 1048576
theorem mem_atS {LL : List (List Int)} {k : Nat} {L : List Int} (h : LL[k]? = some L) : L ∈ LL := List.mem_of_getElem? h
/-- The first 'k' lists lie in these cells, each in a block behind 'G', known whole. -/
def PrefS (w : World) (LL : List (List Int)) (G : Nat) (cs : Array Value) (k : Nat) : Prop :=
  ∀ j, j < k → ∃ (L : List Int) (g : Nat), LL[j]? = some L ∧ cs[j]? = some (.slice (some ⟨g, 0, none⟩) L.length L.length) ∧ G < g ∧ Box g (ivs L).toArray 3 w
theorem PrefS.zero (w : World) (LL : List (List Int)) (G : Nat) (cs : Array Value) : PrefS w LL G cs 0 := fun j h => by omega
theorem PrefS.below {w w' : World} {LL : List (List Int)} {G : Nat} {cs : Array Value} {k : Nat} (h : PrefS w LL G cs k) (hb : Below w.heap.size w w') : PrefS w' LL G cs k := fun j hj => by
  obtain ⟨L, g, h1, h2, h3, h4⟩ := h j hj
  exact ⟨L, g, h1, h2, h3, h4.below hb⟩
theorem PrefS.grown {w w' : World} {LL : List (List Int)} {G : Nat} {cs : Array Value} {k : Nat} (h : PrefS w LL G cs k) (hg : w.grownBy w' (some G)) : PrefS w' LL G cs k := fun j hj => by
  obtain ⟨L, g, h1, h2, h3, h4⟩ := h j hj
  exact ⟨L, g, h1, h2, h3, h4.grown hg (fun e => by have := Option.some.inj e; omega)⟩
theorem PrefS.next {w : World} {LL : List (List Int)} {G : Nat} {cs : Array Value} {k g : Nat} {L : List Int} (h : PrefS w LL G cs k) (hL : LL[k]? = some L) (hs : k < cs.size) (hne : G < g) (hr : Box g (ivs L).toArray 3 w) :
    PrefS w LL G (cs.setIfInBounds k (.slice (some ⟨g, 0, none⟩) L.length L.length)) (k + 1) := fun j hj => by
  by_cases e : j = k
  · subst e
    exact ⟨L, g, hL, by simp [hs], hne, hr⟩
  · obtain ⟨L', g', h1, h2, h3, h4⟩ := h j (by omega)
    exact ⟨L', g', h1, by rw [Array.getElem?_setIfInBounds_ne (Ne.symm e)]; exact h2, h3, h4⟩
/-- Rows in blocks from 'lo' on, each block known whole. -/
def SsX (lo : Nat) (w : World) (a : Option Addr) (n : Nat) (LL : List (List Int)) : Prop :=
  LL.length = n ∧ ∃ (g : Nat) (cs : Array Value), a = some ⟨g, 0, none⟩ ∧ lo ≤ g ∧ Box g cs 28 w ∧ cs.size = n ∧ PrefS w LL g cs n
theorem row_box {w : World} {g n : Nat} {L : List Int} {t : TypeId} (h : Box g (ivs L).toArray t w) (hn : L.length = n) : Row w (some ⟨g, 0, none⟩) n L :=
  ⟨hn, fun k hk => ⟨g, 0, L[k]'(by omega), rfl, h.lt, by simp [show k < L.length by omega], by rw [h.cell]; simp [ivs, show k < L.length by omega]⟩⟩
theorem SsX.row {lo : Nat} {w : World} {a : Option Addr} {n : Nat} {LL : List (List Int)} (h : SsX lo w a n LL) : SRow w a n LL := by
  obtain ⟨hl, g, cs, rfl, hlo, hb, hs, hP⟩ := h
  refine ⟨hl, fun k hk => ?_⟩
  obtain ⟨L, b, h1, h2, h3, h4⟩ := hP k hk
  exact ⟨g, 0, L, some ⟨b, 0, none⟩, L.length, L.length, rfl, hb.lt, h1, by rw [Nat.zero_add, hb.cell]; exact h2, Nat.le_refl _, row_box h4 rfl⟩
theorem SsX.mono {lo lo' : Nat} {w : World} {a : Option Addr} {n : Nat} {LL : List (List Int)} (h : SsX lo w a n LL) (hl : lo' ≤ lo) : SsX lo' w a n LL := by
  obtain ⟨h1, g, cs, h2, h3, h4⟩ := h
  exact ⟨h1, g, cs, h2, Nat.le_trans hl h3, h4⟩
theorem SsX.below {lo : Nat} {w w' : World} {a : Option Addr} {n : Nat} {LL : List (List Int)} (h : SsX lo w a n LL) (hb : Below w.heap.size w w') : SsX lo w' a n LL := by
  obtain ⟨h1, g, cs, h2, h3, h4, h5, h6⟩ := h
  exact ⟨h1, g, cs, h2, h3, h4.below hb, h5, h6.below hb⟩
/-- A copy of the rows in new memory. -/
def MadeSs (w : World) (n : Nat) (LL : List (List Int)) (e : Ending) (w' : World) : Prop :=
  ∃ a' : Option Addr, e = .returned (.slice a' n n) ∧ Hid (SsX w.heap.size w' a' n LL) ∧ Below w.heap.size w w'
theorem infoInts : (Try.prog.info? 28).map (fun i => (i.zero, i.size, i.bytes)) = some (some (.slice none 0 0), 1, 24) := by kernel_rfl
end Go.Proofs.Ytekdnhhmiabngaa.srow

/- Chapter 3's ReadsOf of the model: the numbers of the variables that a valid expression names, in ascending order, in new memory; nothing that was there is written. -/
namespace Go.Proofs.Ytekdnhhmiabngaa.expr
open Go.ChangeShapes Go.WideShapes Go.ChangeAt Go.RowKit Go.Proofs.Ytekdnhhmiabngaa.row Go.Proofs.Ytekdnhhmiabngaa.val

def readsV (o a b : Int) : List Int := if exprOk o a b then rd a b 8 else []
/-- A new row of these numbers. -/
def NewInts (w : World) (L : List Int) (e : Ending) (w' : World) : Prop :=
  ∃ ad n cap, e = .returned (.slice ad n cap) ∧ w'.ownsRow w.heap.size 3 1 (.slice ad n cap) n (ivs L) ∧ Below w.heap.size w w'

end Go.Proofs.Ytekdnhhmiabngaa.expr

/- A reference as a value, and in new memory; what the program's RefRun, RefTasks and SameRef are to give: the shapes of their contracts. -/
namespace Go.Proofs.Ytekdnhhmiabngaa.ref
open Go Go.ChangeShapes Go.WideShapes Go.ChangeAt Go.RowKit Go.Proofs.Ytekdnhhmiabngaa.row Go.Proofs.Ytekdnhhmiabngaa.val Go.Proofs.Ytekdnhhmiabngaa.expr Go.Proofs.Ytekdnhhmiabngaa.stm Go.Proofs.Ytekdnhhmiabngaa.blk Go.Proofs.Ytekdnhhmiabngaa.prg Go.Proofs.Ytekdnhhmiabngaa.exe Go.Proofs.Ytekdnhhmiabngaa.srow

abbrev refV (a1 : Option Addr) (n1 c1 : Nat) (a2 : Option Addr) (n2 c2 : Nat) (R : Rf) : Value := .agg #[.slice a1 n1 c1, .slice a2 n2 c2, .int .i64 R.T]
/-- The reference in new memory. -/
def RefMem (B : Nat) (a1 : Option Addr) (n1 c1 : Nat) (a2 : Option Addr) (n2 c2 : Nat) (R : Rf) (w' : World) : Prop :=
  w'.ownsRow B 3 1 (.slice a1 n1 c1) n1 (ivs R.V) ∧ w'.ownsRow B 3 1 (.slice a2 n2 c2) n2 (ivs R.S) ∧ ((Value.slice a1 n1 c1).ownBlock = none ∨ (Value.slice a1 n1 c1).ownBlock ≠ (Value.slice a2 n2 c2).ownBlock)
def NewRef (w : World) (R : Rf) (e : Ending) (w' : World) : Prop :=
  ∃ a1 n1 c1 a2 n2 c2, e = .returned (refV a1 n1 c1 a2 n2 c2 R) ∧ RefMem w.heap.size a1 n1 c1 a2 n2 c2 R w' ∧ Below w.heap.size w w'
def NewRefB (w : World) (r : Bool) (R : Rf) (e : Ending) (w' : World) : Prop :=
  ∃ a1 n1 c1 a2 n2 c2, e = .returned (.tuple #[refV a1 n1 c1 a2 n2 c2 R, .bool r]) ∧ RefMem w.heap.size a1 n1 c1 a2 n2 c2 R w' ∧ Below w.heap.size w w'
abbrev zero3R : Array Value := #[.slice none 0 0, .slice none 0 0, .int .i64 0]
abbrev RrC : Prop := ∀ (a : Option Addr) (n cap : Nat) (P : List Tk) (_ : Sizes P) (_ : n ≤ cap) (w : World) (_ : TkRow w a n P) (ad : Option Addr) (nv cv : Nat) (V : List Int) (_ : (nv : Int) ≤ 1048576) (_ : nv ≤ cv) (_ : Row w ad nv V) (au : Option Addr) (nu cu : Nat) (UU : List (List Int)) (_ : SSizes UU) (_ : nu ≤ cu) (_ : SRow w au nu UU)
    (i : Int) (r : Bool) (R : Rf) (_ : RefIs P V UU i r R), Calls Try.prog 17 #[.agg #[.slice a n cap], .int .i64 i, .slice ad nv cv, .slice au nu cu] w (NewRefB w r R)
abbrev RtC : Prop := ∀ (a : Option Addr) (n cap : Nat) (P : List Tk) (_ : Sizes P) (_ : n ≤ cap) (w : World) (_ : TkRow w a n P) (ad : Option Addr) (nv cv : Nat) (V : List Int) (_ : (nv : Int) ≤ 1048576) (_ : nv ≤ cv) (_ : Row w ad nv V) (au : Option Addr) (nu cu : Nat) (UU : List (List Int)) (_ : SSizes UU) (_ : nu ≤ cu) (_ : SRow w au nu UU)
    (i : Int) (L : List Int) (_ : TasksIs P V UU i L), Calls Try.prog 19 #[.agg #[.slice a n cap], .int .i64 i, .slice ad nv cv, .slice au nu cu] w (NewInts w L)
abbrev SrC : Prop := ∀ (w : World) (a1 : Option Addr) (n1 c1 : Nat) (a2 : Option Addr) (n2 c2 : Nat) (A : Rf) (_ : (n1 : Int) ≤ 1048576) (_ : (n2 : Int) ≤ 1048576) (_ : Row w a1 n1 A.V) (_ : Row w a2 n2 A.S) (b1 : Option Addr) (m1 d1 : Nat) (b2 : Option Addr) (m2 d2 : Nat) (B : Rf) (_ : (m1 : Int) ≤ 1048576) (_ : (m2 : Int) ≤ 1048576) (_ : Row w b1 m1 B.V) (_ : Row w b2 m2 B.S)
    (r : Bool) (_ : sameRf A B = r), Calls Try.prog 18 #[refV a1 n1 c1 a2 n2 c2 A, refV b1 m1 d1 b2 m2 d2 B] w (BelB w r)
end Go.Proofs.Ytekdnhhmiabngaa.ref

/- An effect as a value, and in new memory. -/
namespace Go.Proofs.Ytekdnhhmiabngaa.exe
open Go Go.ChangeShapes Go.WideShapes Go.ChangeAt Go.RowKit Go.Proofs.Ytekdnhhmiabngaa.row Go.Proofs.Ytekdnhhmiabngaa.val Go.Proofs.Ytekdnhhmiabngaa.expr

abbrev effV (a1 : Option Addr) (n1 c1 : Nat) (a2 : Option Addr) (n2 c2 : Nat) (E : Eff) : Value := .agg #[.slice a1 n1 c1, .slice a2 n2 c2, .int .i64 E.N, .int .i64 E.U]
/-- The effect in new memory. -/
def EffMem (B : Nat) (a1 : Option Addr) (n1 c1 : Nat) (a2 : Option Addr) (n2 c2 : Nat) (E : Eff) (w' : World) : Prop :=
  w'.ownsRow B 3 1 (.slice a1 n1 c1) n1 (ivs E.V) ∧ w'.ownsRow B 3 1 (.slice a2 n2 c2) n2 (ivs E.S) ∧ ((Value.slice a1 n1 c1).ownBlock = none ∨ (Value.slice a1 n1 c1).ownBlock ≠ (Value.slice a2 n2 c2).ownBlock)
def NewEff (w : World) (E : Eff) (e : Ending) (w' : World) : Prop :=
  ∃ a1 n1 c1 a2 n2 c2, e = .returned (effV a1 n1 c1 a2 n2 c2 E) ∧ EffMem w.heap.size a1 n1 c1 a2 n2 c2 E w' ∧ Below w.heap.size w w'
def NewEffB (w : World) (r : Bool) (E : Eff) (e : Ending) (w' : World) : Prop :=
  ∃ a1 n1 c1 a2 n2 c2, e = .returned (.tuple #[effV a1 n1 c1 a2 n2 c2 E, .bool r]) ∧ EffMem w.heap.size a1 n1 c1 a2 n2 c2 E w' ∧ Below w.heap.size w w'
abbrev zero4E : Array Value := #[.slice none 0 0, .slice none 0 0, .int .i64 0, .int .i64 0]
end Go.Proofs.Ytekdnhhmiabngaa.exe
