/- Several texts in one: SetH. -/
import Derived.Test.YtodlbbojjnkneaaGHub15

/- The sets that are open at a place of a block, by where each one ends. Plain mathematics. -/
namespace Go.Proofs.Ytodlbbojjnkneaa.sets
open Go Go.Proofs.Ytodlbbojjnkneaa.stm Go.Proofs.Ytodlbbojjnkneaa.blk Go.Proofs.Ytodlbbojjnkneaa.expr

/-- A set is open at 'p' that ends at 'q': the block's own, or that of a condition around the place. -/
def Opn (B : List Sm) (p q : Nat) : Prop := q = B.length ∨ ∃ i, InIf B i p ∧ IsEnd B i q
/-- What the set that ends at 'q' holds at 'p'. -/
def SAt (B : List Sm) (p q v : Nat) : Prop := ∃ j, j < p ∧ WrAt B j v ∧ ∀ i e s, B[i]? = some s → s.k = 4 → IsEnd B i e → i < j → j ≤ e → q ≤ e ∧ p ≤ e
theorem sAt_zero {B : List Sm} {q v : Nat} : ¬ SAt B 0 q v := fun ⟨j, h, _⟩ => by omega
theorem opn_zero {B : List Sm} {q : Nat} : Opn B 0 q ↔ q = B.length := by
  constructor
  · rintro (h | ⟨i, ⟨_, _, _, _, _, h, _⟩, _⟩)
    · exact h
    · omega
  · exact .inl
theorem opn_last {B : List Sm} {q : Nat} : Opn B B.length q ↔ q = B.length := by
  constructor
  · rintro (h | ⟨i, ⟨e, _, _, _, he, _, h⟩, _⟩)
    · exact h
    · have := he.2.1; omega
  · exact .inl
theorem Opn.le {B : List Sm} {p q : Nat} (h : Opn B p q) : q ≤ B.length := by
  rcases h with rfl | ⟨i, _, he⟩
  · exact Nat.le_refl _
  · exact Nat.le_of_lt he.2.1
theorem Opn.ge {B : List Sm} {p q : Nat} (h : Opn B p q) (hp : p ≤ B.length) : p ≤ q := by
  rcases h with rfl | ⟨i, ⟨e, _, _, _, he, _, h2⟩, he'⟩
  · exact hp
  · have := he.unique he'; omega
/-- The innermost set holds what is certainly written. -/
theorem sAt_min {B : List Sm} {p q v : Nat} (hq : ∀ q', Opn B p q' → q ≤ q') : SAt B p q v ↔ WAt B p v := by
  constructor
  · rintro ⟨j, hj, hw, h⟩
    refine ⟨j, hj, hw, fun i ⟨e, s, h1, h2, h3, h4, h5⟩ => ⟨e, s, h1, h2, h3, by omega, (h i e s h1 h2 h3 h4 h5).2⟩⟩
  · rintro ⟨j, hj, hw, h⟩
    refine ⟨j, hj, hw, fun i e s h1 h2 h3 h4 h5 => ?_⟩
    have hI : InIf B i p := h i ⟨e, s, h1, h2, h3, h4, h5⟩
    have hI2 := hI
    obtain ⟨e', s', g1, g2, g3, g4, g5⟩ := hI2
    obtain rfl := g3.unique h3
    exact ⟨hq _ (.inr ⟨i, hI, h3⟩), g5⟩
/-- Where nothing is written, the sets that stay open hold what they held. -/
theorem sAt_still {B : List Sm} {p q v : Nat} (hn : ∀ u, ¬ WrAt B p u) (hq : p + 1 ≤ q) : SAt B (p + 1) q v ↔ SAt B p q v := by
  constructor
  · rintro ⟨j, hj, hw, h⟩
    have : j ≠ p := fun e => hn v (e ▸ hw)
    refine ⟨j, by omega, hw, fun i e s h1 h2 h3 h4 h5 => ?_⟩
    have := h i e s h1 h2 h3 h4 h5
    exact ⟨this.1, by omega⟩
  · rintro ⟨j, hj, hw, h⟩
    refine ⟨j, by omega, hw, fun i e s h1 h2 h3 h4 h5 => ?_⟩
    have := h i e s h1 h2 h3 h4 h5
    exact ⟨this.1, by omega⟩
/-- What is written goes into the innermost set .. -/
theorem sAt_put {B : List Sm} {p q v : Nat} (hq : ∀ q', Opn B p q' → q ≤ q') (hp : p + 1 ≤ q) : SAt B (p + 1) q v ↔ SAt B p q v ∨ WrAt B p v := by
  constructor
  · rintro ⟨j, hj, hw, h⟩
    by_cases e : j = p
    · subst e; exact .inr hw
    · refine .inl ⟨j, by omega, hw, fun i e s h1 h2 h3 h4 h5 => ?_⟩
      have := h i e s h1 h2 h3 h4 h5
      exact ⟨this.1, by omega⟩
  · rintro (⟨j, hj, hw, h⟩ | hw)
    · refine ⟨j, by omega, hw, fun i e s h1 h2 h3 h4 h5 => ?_⟩
      have := h i e s h1 h2 h3 h4 h5
      exact ⟨this.1, by omega⟩
    · refine ⟨p, by omega, hw, fun i e s h1 h2 h3 h4 h5 => ?_⟩
      have := hq e (.inr ⟨i, ⟨e, s, h1, h2, h3, h4, h5⟩, h3⟩)
      exact ⟨this, by omega⟩
/-- .. and into no other. -/
theorem sAt_other {B : List Sm} {p q q' v : Nat} (ho : Opn B p q') (hlt : q' < q) (hb : q ≤ B.length) (hp : p + 1 ≤ q) : SAt B (p + 1) q v ↔ SAt B p q v := by
  constructor
  · rintro ⟨j, hj, hw, h⟩
    by_cases e : j = p
    · subst e
      exfalso
      rcases ho with rfl | ⟨i, ⟨e, s, h1, h2, h3, h4, h5⟩, h6⟩
      · omega
      · obtain rfl := h3.unique h6
        have := h i e s h1 h2 h3 h4 h5
        omega
    · refine ⟨j, by omega, hw, fun i e s h1 h2 h3 h4 h5 => ?_⟩
      have := h i e s h1 h2 h3 h4 h5
      exact ⟨this.1, by omega⟩
  · rintro ⟨j, hj, hw, h⟩
    refine ⟨j, by omega, hw, fun i e s h1 h2 h3 h4 h5 => ?_⟩
    have := h i e s h1 h2 h3 h4 h5
    exact ⟨this.1, by omega⟩
/-- At a condition the new set is what is certainly written. -/
theorem sAt_if {B : List Sm} {p e v : Nat} {s : Sm} (hs : B[p]? = some s) (h4 : s.k = 4) (he : IsEnd B p e) : SAt B (p + 1) e v ↔ WAt B p v := by
  constructor
  · rintro ⟨j, hj, hw, h⟩
    have hjp : j ≠ p := by
      rintro rfl
      obtain ⟨t, ht, hw2, _⟩ := hw
      rw [hs] at ht; cases ht
      rcases hw2 with h | h <;> omega
    refine ⟨j, by omega, hw, fun i ⟨e', t, h1, h2, h3, h5, h6⟩ => ?_⟩
    have := h i e' t h1 h2 h3 h5 h6
    exact ⟨e', t, h1, h2, h3, by omega, by omega⟩
  · rintro ⟨j, hj, hw, h⟩
    refine ⟨j, by omega, hw, fun i e' t h1 h2 h3 h5 h6 => ?_⟩
    obtain ⟨e2, t2, g1, g2, g3, g5, g6⟩ := h i ⟨e', t, h1, h2, h3, h5, h6⟩
    obtain rfl := g3.unique h3
    have := end_in he g3 g5 g6
    have := he.1
    exact ⟨by omega, by omega⟩
theorem six_not {B : List Sm} {i p : Nat} {s : Sm} (hs : B[p]? = some s) (h : s.k ≠ 6) : ¬ IsEnd B i p := fun he => by
  obtain ⟨t, ht, h6⟩ := he.kind
  rw [hs] at ht; cases ht; exact h h6
/-- No condition begins or ends: the open sets are the same. -/
theorem opn_same {B : List Sm} {p q : Nat} {s : Sm} (hs : B[p]? = some s) (h4 : s.k ≠ 4) (hn : ∀ i t, B[i]? = some t → t.k = 4 → ¬ IsEnd B i p) : Opn B (p + 1) q ↔ Opn B p q := by
  constructor
  · rintro (h | ⟨i, ⟨e, t, h1, h2, h3, h5, h6⟩, h7⟩)
    · exact .inl h
    · have : i ≠ p := by rintro rfl; rw [hs] at h1; cases h1; exact h4 h2
      exact .inr ⟨i, ⟨e, t, h1, h2, h3, by omega, by omega⟩, h7⟩
  · rintro (h | ⟨i, ⟨e, t, h1, h2, h3, h5, h6⟩, h7⟩)
    · exact .inl h
    · have : e ≠ p := fun e9 => hn i t h1 h2 (e9 ▸ h3)
      exact .inr ⟨i, ⟨e, t, h1, h2, h3, by omega, by omega⟩, h7⟩
/-- A condition begins: one more is open. -/
theorem opn_if {B : List Sm} {p e q : Nat} {s : Sm} (hs : B[p]? = some s) (h4 : s.k = 4) (he : IsEnd B p e) : Opn B (p + 1) q ↔ Opn B p q ∨ q = e := by
  constructor
  · rintro (h | ⟨i, ⟨e', t, h1, h2, h3, h5, h6⟩, h7⟩)
    · exact .inl (.inl h)
    · by_cases e9 : i = p
      · subst e9; exact .inr (h7.unique he)
      · exact .inl (.inr ⟨i, ⟨e', t, h1, h2, h3, by omega, by omega⟩, h7⟩)
  · rintro ((h | ⟨i, ⟨e', t, h1, h2, h3, h5, h6⟩, h7⟩) | rfl)
    · exact .inl h
    · have : e' ≠ p := fun e9 => six_not hs (by omega) (e9 ▸ h3)
      exact .inr ⟨i, ⟨e', t, h1, h2, h3, by omega, by omega⟩, h7⟩
    · exact .inr ⟨p, ⟨q, s, hs, h4, he, by omega, he.1⟩, he⟩
theorem opn_if_lt {B : List Sm} {p e q : Nat} (he : IsEnd B p e) (h : Opn B p q) : e < q := by
  rcases h with rfl | ⟨i, ⟨e', t, h1, h2, h3, h5, h6⟩, h7⟩
  · exact he.2.1
  · obtain rfl := h3.unique h7
    exact end_in he h3 h5 h6
/-- A condition ends: it is open no longer. -/
theorem opn_end {B : List Sm} {i p q : Nat} (he : IsEnd B i p) : Opn B (p + 1) q ↔ Opn B p q ∧ q ≠ p := by
  have hp := he.2.1
  constructor
  · rintro (h | ⟨i', ⟨e', t, h1, h2, h3, h5, h6⟩, h7⟩)
    · exact ⟨.inl h, by omega⟩
    · obtain rfl := h3.unique h7
      have : i' ≠ p := by
        rintro rfl
        obtain ⟨t', ht', h6'⟩ := he.kind
        rw [h1] at ht'; cases ht'; omega
      exact ⟨.inr ⟨i', ⟨e', t, h1, h2, h3, by omega, by omega⟩, h7⟩, by omega⟩
  · rintro ⟨h | ⟨i', ⟨e', t, h1, h2, h3, h5, h6⟩, h7⟩, hne⟩
    · exact .inl h
    · obtain rfl := h3.unique h7
      exact .inr ⟨i', ⟨e', t, h1, h2, h3, by omega, by omega⟩, h7⟩
/-- There is an innermost set. -/
theorem opn_min (B : List Sm) (p : Nat) : ∃ q, Opn B p q ∧ ∀ q', Opn B p q' → q ≤ q' := by
  have key : ∀ d q, q ≤ d → Opn B p q → ∃ q, Opn B p q ∧ ∀ q', Opn B p q' → q ≤ q' := by
    intro d
    induction d with
    | zero => intro q hq h; exact ⟨q, h, fun q' _ => by omega⟩
    | succ d ih =>
      intro q hq h
      rcases Classical.em (∃ q', Opn B p q' ∧ q' < q) with ⟨q', h1, h2⟩ | hn
      · exact ih q' (by omega) h1
      · exact ⟨q, h, fun q' h' => Nat.le_of_not_lt fun hlt => hn ⟨q', h', hlt⟩⟩
  exact key _ _ (Nat.le_refl _) (.inl rfl)
end Go.Proofs.Ytodlbbojjnkneaa.sets
