/- Several texts in one: BlkA. -/
import Derived.Test.YtlicadaecfgklaaGHub12

/- Blocks as heights: a statement that opens raises the height, an end lowers it; a block is valid if the height stays between 0 and 3 and ends at 0; the matching end, the depth. Plain mathematics. -/
namespace Go.Proofs.Ytlicadaecfgklaa.blk
open Go Go.Proofs.Ytlicadaecfgklaa.stm

abbrev St := Go.Proofs.Ytlicadaecfgklaa.stm.St
def opn (s : St) : Bool := s.k == 4 || s.k == 5
def dlt (s : St) : Int := if s.k = 4 ∨ s.k = 5 then 1 else if s.k = 6 then -1 else 0
/-- The height behind a list of statements. -/
def ht (L : List St) : Int := (L.map dlt).sum
def hAt (L : List St) (i : Nat) : Int := ht (L.take i)
theorem hAt_zero (L : List St) : hAt L 0 = 0 := rfl
theorem hAt_succ {L : List St} {i : Nat} {s : St} (h : L[i]? = some s) : hAt L (i + 1) = hAt L i + dlt s := by
  unfold hAt ht; rw [List.take_add_one, h]; simp [List.sum_append]
theorem hAt_end (L : List St) {i : Nat} (h : L.length ≤ i) : hAt L i = hAt L L.length := by
  unfold hAt; rw [List.take_of_length_le h, List.take_of_length_le (Nat.le_refl _)]
theorem dlt_opn {s : St} (h : opn s = true) : dlt s = 1 := by
  unfold opn at h; unfold dlt; rw [if_pos (by simpa using h)]
theorem dlt_end {s : St} (h : s.k = 6) : dlt s = -1 := by
  unfold dlt; rw [if_neg (by omega), if_pos h]
theorem dlt_flat {s : St} (h : opn s = false) (h6 : s.k ≠ 6) : dlt s = 0 := by
  unfold opn at h; unfold dlt; rw [if_neg (by simpa using h), if_neg h6]
theorem dlt_cases (s : St) : (opn s = true ∧ s.k ≠ 6 ∧ dlt s = 1) ∨ (opn s = false ∧ s.k = 6 ∧ dlt s = -1) ∨ (opn s = false ∧ s.k ≠ 6 ∧ dlt s = 0) := by
  by_cases ho : opn s = true
  · refine .inl ⟨ho, ?_, dlt_opn ho⟩
    intro e; unfold opn at ho; rw [e] at ho; simp at ho
  · have ho' : opn s = false := by simpa using ho
    by_cases h6 : s.k = 6
    · exact .inr (.inl ⟨ho', h6, dlt_end h6⟩)
    · exact .inr (.inr ⟨ho', h6, dlt_flat ho' h6⟩)
/-- The block is valid up to the statement 'n'. -/
def OkTo (L : List St) (n : Nat) : Prop := ∀ j s, j < n → L[j]? = some s → stOk s = true ∧ 0 ≤ hAt L (j + 1) ∧ hAt L (j + 1) ≤ 3
/-- A valid block. -/
def IsBlk (L : List St) : Prop := OkTo L L.length ∧ hAt L L.length = 0 ∧ L.length ≤ 24
theorem okTo_zero (L : List St) : OkTo L 0 := fun j s h => by omega
theorem okTo_succ {L : List St} {n : Nat} {s : St} (h : OkTo L n) (hs : L[n]? = some s) (h1 : stOk s = true) (h2 : 0 ≤ hAt L (n + 1)) (h3 : hAt L (n + 1) ≤ 3) : OkTo L (n + 1) := fun j t hj ht => by
  by_cases e : j = n
  · subst e; rw [hs] at ht; cases ht; exact ⟨h1, h2, h3⟩
  · exact h j t (by omega) ht
theorem not_blk_at {L : List St} {n : Nat} {s : St} (hs : L[n]? = some s) (h : stOk s = false ∨ hAt L (n + 1) < 0 ∨ 3 < hAt L (n + 1)) : ¬ IsBlk L := fun hb => by
  obtain ⟨h1, h2, h3⟩ := hb.1 n s (List.getElem?_eq_some_iff.1 hs).1 hs
  rcases h with h | h | h
  · rw [h] at h1; cases h1
  · omega
  · omega
theorem blk_bounds {L : List St} (h : IsBlk L) (i : Nat) : 0 ≤ hAt L i ∧ hAt L i ≤ 3 := by
  rcases Nat.eq_zero_or_pos i with rfl | hi
  · rw [hAt_zero]; omega
  · obtain ⟨j, rfl⟩ : ∃ j, i = j + 1 := ⟨i - 1, by omega⟩
    by_cases hj : j < L.length
    · exact (h.1 j L[j] hj (by simp [hj])).2
    · rw [hAt_end L (by omega), h.2.1]; omega
theorem blk_stOk {L : List St} (h : IsBlk L) {i : Nat} {s : St} (hs : L[i]? = some s) : stOk s = true := (h.1 i s (List.getElem?_eq_some_iff.1 hs).1 hs).1

/-- The end 'e' of the statement 'i': the height comes back there for the first time. -/
def IsEnd (L : List St) (i e : Nat) : Prop := i < e ∧ e < L.length ∧ hAt L (e + 1) = hAt L i ∧ ∀ j, i < j → j ≤ e → hAt L i < hAt L j
theorem IsEnd.unique {L : List St} {i e f : Nat} (h : IsEnd L i e) (h' : IsEnd L i f) : e = f := by
  rcases Nat.lt_trichotomy e f with hlt | rfl | hlt
  · have := h'.2.2.2 (e + 1) (by have := h.1; omega) (by omega); rw [h.2.2.1] at this; omega
  · rfl
  · have := h.2.2.2 (f + 1) (by have := h'.1; omega) (by omega); rw [h'.2.2.1] at this; omega
theorem at_lt {L : List St} {i : Nat} (h : i < L.length) : ∃ s, L[i]? = some s := ⟨L[i], by simp [h]⟩
theorem IsEnd.kind {L : List St} {i e : Nat} (h : IsEnd L i e) : ∃ s, L[e]? = some s ∧ s.k = 6 := by
  obtain ⟨s, he⟩ := at_lt h.2.1
  refine ⟨s, he, ?_⟩
  have h1 := hAt_succ he
  have h2 := h.2.2.2 e h.1 (Nat.le_refl _)
  have h3 := h.2.2.1
  rcases dlt_cases s with ⟨_, _, hd⟩ | ⟨_, h6, _⟩ | ⟨_, _, hd⟩
  · omega
  · exact h6
  · omega
theorem IsEnd.depth {L : List St} {i e : Nat} (h : IsEnd L i e) : hAt L e = hAt L i + 1 := by
  obtain ⟨s, hs, h6⟩ := h.kind
  have h1 := hAt_succ hs
  rw [dlt_end h6, h.2.2.1] at h1
  omega
/-- From a statement that opens on, the height comes back: there is an end, if there is a place where it is as low. -/
theorem end_search {L : List St} {i : Nat} {s : St} (hs : L[i]? = some s) (ho : opn s = true) : ∀ n, i < n → n ≤ L.length → (∀ j, i < j → j ≤ n → hAt L i < hAt L j) ∨ ∃ e, e < n ∧ IsEnd L i e := by
  intro n
  induction n with
  | zero => intro h; omega
  | succ n ih =>
    intro hi hn
    by_cases hin : i < n
    · rcases ih hin (by omega) with h | ⟨e, he, hE⟩
      · have hsn : L[n]? = some L[n] := by simp [show n < L.length by omega]
        have h1 := hAt_succ hsn
        have h2 := h n hin (Nat.le_refl _)
        rcases dlt_cases L[n] with ⟨_, _, hd⟩ | ⟨_, _, hd⟩ | ⟨_, _, hd⟩
        · left; intro j hj hjn
          by_cases e : j = n + 1
          · subst e; omega
          · exact h j hj (by omega)
        · by_cases heq : hAt L (n + 1) = hAt L i
          · exact .inr ⟨n, by omega, hin, by omega, heq, h⟩
          · left; intro j hj hjn
            by_cases e : j = n + 1
            · subst e; omega
            · exact h j hj (by omega)
        · left; intro j hj hjn
          by_cases e : j = n + 1
          · subst e; omega
          · exact h j hj (by omega)
      · exact .inr ⟨e, by omega, hE⟩
    · obtain rfl : i = n := by omega
      left; intro j hj hjn
      obtain rfl : j = i + 1 := by omega
      rw [hAt_succ hs, dlt_opn ho]; omega
theorem end_exists {L : List St} (hb : IsBlk L) {i : Nat} {s : St} (hs : L[i]? = some s) (ho : opn s = true) : ∃ e, IsEnd L i e := by
  have hi := (List.getElem?_eq_some_iff.1 hs).1
  rcases end_search hs ho L.length hi (Nat.le_refl _) with h | ⟨e, _, he⟩
  · have h1 := h L.length hi (Nat.le_refl _)
    have h2 := (blk_bounds hb i).1
    rw [hb.2.1] at h1; omega
  · exact ⟨e, he⟩
theorem IsEnd.opens {L : List St} {i e : Nat} (h : IsEnd L i e) : ∃ s, L[i]? = some s ∧ opn s = true := by
  obtain ⟨s, hi⟩ := at_lt (show i < L.length by have := h.1; have := h.2.1; omega)
  refine ⟨s, hi, ?_⟩
  have h1 := hAt_succ hi
  have h2 := h.2.2.2 (i + 1) (by omega) h.1
  rcases dlt_cases s with ⟨ho, _⟩ | ⟨_, _, hd⟩ | ⟨_, _, hd⟩
  · exact ho
  · omega
  · omega

/-- What EndOf must give. -/
def EndIs (L : List St) (i : Int) (x : Int) : Prop :=
  (∃ j e : Nat, i = j ∧ IsBlk L ∧ IsEnd L j e ∧ x = e) ∨ (x = -1 ∧ ∀ j e : Nat, i = j → IsBlk L → ¬ IsEnd L j e)
theorem EndIs.unique {L : List St} {i x y : Int} (h : EndIs L i x) (h' : EndIs L i y) : x = y := by
  rcases h with ⟨j, e, hj, hb, he, rfl⟩ | ⟨rfl, h⟩ <;> rcases h' with ⟨j', e', hj', hb', he', rfl⟩ | ⟨rfl, h'⟩
  · obtain rfl : j = j' := by omega
    rw [he.unique he']
  · exact absurd he (h' j e hj hb)
  · exact absurd he' (h j' e' hj' hb')
  · rfl
/-- What DepthOf must give. -/
def DepthIs (L : List St) (i : Int) (x : Int) : Prop :=
  (∃ j : Nat, i = j ∧ j < L.length ∧ IsBlk L ∧ x = hAt L j) ∨ (x = -1 ∧ ∀ j : Nat, i = j → j < L.length → ¬ IsBlk L)
theorem DepthIs.unique {L : List St} {i x y : Int} (h : DepthIs L i x) (h' : DepthIs L i y) : x = y := by
  rcases h with ⟨j, hj, hl, hb, rfl⟩ | ⟨rfl, h⟩ <;> rcases h' with ⟨j', hj', hl', hb', rfl⟩ | ⟨rfl, h'⟩
  · obtain rfl : j = j' := by omega
    rfl
  · exact absurd hb (h' j hj hl)
  · exact absurd hb' (h j' hj' hl')
  · rfl
end Go.Proofs.Ytlicadaecfgklaa.blk
