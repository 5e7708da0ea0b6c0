/- Several texts in one: BlkA BlkB ReadA SetA. -/
import Derived.Test.YtmgeecdgebemdaaGreatDoorGSig1
import Derived.Lib.SlicesCompact

/- Blocks as heights: a statement that opens raises the height, an end lowers it; a block is valid if the height stays between 0 and 3 and ends at 0; the matching end, the depth. Plain mathematics. -/
namespace Go.Proofs.YtmgeecdgebemdaaGreatDoor.blk
open Go Go.Proofs.YtmgeecdgebemdaaGreatDoor.stm

abbrev St := Go.Proofs.YtmgeecdgebemdaaGreatDoor.stm.St
def opn (s : St) : Bool := s.k == 4 || s.k == 5
def dlt (s : St) : Int := if s.k = 4 ∨ s.k = 5 then 1 else if s.k = 6 then -1 else 0
/-- The height behind a list of statements. -/
def ht (L : List St) : Int := (L.map dlt).sum
def hAt (L : List St) (i : Nat) : Int := ht (L.take i)
theorem hAt_zero (L : List St) : hAt L 0 = 0 := rfl
theorem hAt_succ {L : List St} {i : Nat} {s : St} (h : L[i]? = some s) : hAt L (i + 1) = hAt L i + dlt s := by
  unfold hAt ht; rw [List.take_add_one, h]; simp [List.sum_append]
theorem hAt_end (L : List St) {i : Nat} (h : L.length ≤ i) : hAt L i = hAt L L.length := by
  unfold hAt; rw [List.take_of_length_le h, List.take_of_length_le (Nat.le_refl _)]
theorem dlt_opn {s : St} (h : opn s = true) : dlt s = 1 := by
  unfold opn at h; unfold dlt; rw [if_pos (by simpa using h)]
theorem dlt_end {s : St} (h : s.k = 6) : dlt s = -1 := by
  unfold dlt; rw [if_neg (by omega), if_pos h]
theorem dlt_flat {s : St} (h : opn s = false) (h6 : s.k ≠ 6) : dlt s = 0 := by
  unfold opn at h; unfold dlt; rw [if_neg (by simpa using h), if_neg h6]
theorem dlt_cases (s : St) : (opn s = true ∧ s.k ≠ 6 ∧ dlt s = 1) ∨ (opn s = false ∧ s.k = 6 ∧ dlt s = -1) ∨ (opn s = false ∧ s.k ≠ 6 ∧ dlt s = 0) := by
  by_cases ho : opn s = true
  · refine .inl ⟨ho, ?_, dlt_opn ho⟩
    intro e; unfold opn at ho; rw [e] at ho; simp at ho
  · have ho' : opn s = false := by simpa using ho
    by_cases h6 : s.k = 6
    · exact .inr (.inl ⟨ho', h6, dlt_end h6⟩)
    · exact .inr (.inr ⟨ho', h6, dlt_flat ho' h6⟩)
/-- The block is valid up to the statement 'n'. -/
def OkTo (L : List St) (n : Nat) : Prop := ∀ j s, j < n → L[j]? = some s → stOk s = true ∧ 0 ≤ hAt L (j + 1) ∧ hAt L (j + 1) ≤ 3
/-- A valid block. -/
def IsBlk (L : List St) : Prop := OkTo L L.length ∧ hAt L L.length = 0 ∧ L.length ≤ 24
theorem okTo_zero (L : List St) : OkTo L 0 := fun j s h => by omega
theorem okTo_succ {L : List St} {n : Nat} {s : St} (h : OkTo L n) (hs : L[n]? = some s) (h1 : stOk s = true) (h2 : 0 ≤ hAt L (n + 1)) (h3 : hAt L (n + 1) ≤ 3) : OkTo L (n + 1) := fun j t hj ht => by
  by_cases e : j = n
  · subst e; rw [hs] at ht; cases ht; exact ⟨h1, h2, h3⟩
  · exact h j t (by omega) ht
theorem not_blk_at {L : List St} {n : Nat} {s : St} (hs : L[n]? = some s) (h : stOk s = false ∨ hAt L (n + 1) < 0 ∨ 3 < hAt L (n + 1)) : ¬ IsBlk L := fun hb => by
  obtain ⟨h1, h2, h3⟩ := hb.1 n s (List.getElem?_eq_some_iff.1 hs).1 hs
  rcases h with h | h | h
  · rw [h] at h1; cases h1
  · omega
  · omega
theorem blk_bounds {L : List St} (h : IsBlk L) (i : Nat) : 0 ≤ hAt L i ∧ hAt L i ≤ 3 := by
  rcases Nat.eq_zero_or_pos i with rfl | hi
  · rw [hAt_zero]; omega
  · obtain ⟨j, rfl⟩ : ∃ j, i = j + 1 := ⟨i - 1, by omega⟩
    by_cases hj : j < L.length
    · exact (h.1 j L[j] hj (by simp [hj])).2
    · rw [hAt_end L (by omega), h.2.1]; omega
theorem blk_stOk {L : List St} (h : IsBlk L) {i : Nat} {s : St} (hs : L[i]? = some s) : stOk s = true := (h.1 i s (List.getElem?_eq_some_iff.1 hs).1 hs).1

/-- The end 'e' of the statement 'i': the height comes back there for the first time. -/
def IsEnd (L : List St) (i e : Nat) : Prop := i < e ∧ e < L.length ∧ hAt L (e + 1) = hAt L i ∧ ∀ j, i < j → j ≤ e → hAt L i < hAt L j
theorem IsEnd.unique {L : List St} {i e f : Nat} (h : IsEnd L i e) (h' : IsEnd L i f) : e = f := by
  rcases Nat.lt_trichotomy e f with hlt | rfl | hlt
  · have := h'.2.2.2 (e + 1) (by have := h.1; omega) (by omega); rw [h.2.2.1] at this; omega
  · rfl
  · have := h.2.2.2 (f + 1) (by have := h'.1; omega) (by omega); rw [h'.2.2.1] at this; omega
theorem at_lt {L : List St} {i : Nat} (h : i < L.length) : ∃ s, L[i]? = some s := ⟨L[i], by simp [h]⟩
theorem IsEnd.kind {L : List St} {i e : Nat} (h : IsEnd L i e) : ∃ s, L[e]? = some s ∧ s.k = 6 := by
  obtain ⟨s, he⟩ := at_lt h.2.1
  refine ⟨s, he, ?_⟩
  have h1 := hAt_succ he
  have h2 := h.2.2.2 e h.1 (Nat.le_refl _)
  have h3 := h.2.2.1
  rcases dlt_cases s with ⟨_, _, hd⟩ | ⟨_, h6, _⟩ | ⟨_, _, hd⟩
  · omega
  · exact h6
  · omega
theorem IsEnd.depth {L : List St} {i e : Nat} (h : IsEnd L i e) : hAt L e = hAt L i + 1 := by
  obtain ⟨s, hs, h6⟩ := h.kind
  have h1 := hAt_succ hs
  rw [dlt_end h6, h.2.2.1] at h1
  omega
/-- From a statement that opens on, the height comes back: there is an end, if there is a place where it is as low. -/
theorem end_search {L : List St} {i : Nat} {s : St} (hs : L[i]? = some s) (ho : opn s = true) : ∀ n, i < n → n ≤ L.length → (∀ j, i < j → j ≤ n → hAt L i < hAt L j) ∨ ∃ e, e < n ∧ IsEnd L i e := by
  intro n
  induction n with
  | zero => intro h; omega
  | succ n ih =>
    intro hi hn
    by_cases hin : i < n
    · rcases ih hin (by omega) with h | ⟨e, he, hE⟩
      · have hsn : L[n]? = some L[n] := by simp [show n < L.length by omega]
        have h1 := hAt_succ hsn
        have h2 := h n hin (Nat.le_refl _)
        rcases dlt_cases L[n] with ⟨_, _, hd⟩ | ⟨_, _, hd⟩ | ⟨_, _, hd⟩
        · left; intro j hj hjn
          by_cases e : j = n + 1
          · subst e; omega
          · exact h j hj (by omega)
        · by_cases heq : hAt L (n + 1) = hAt L i
          · exact .inr ⟨n, by omega, hin, by omega, heq, h⟩
          · left; intro j hj hjn
            by_cases e : j = n + 1
            · subst e; omega
            · exact h j hj (by omega)
        · left; intro j hj hjn
          by_cases e : j = n + 1
          · subst e; omega
          · exact h j hj (by omega)
      · exact .inr ⟨e, by omega, hE⟩
    · obtain rfl : i = n := by omega
      left; intro j hj hjn
      obtain rfl : j = i + 1 := by omega
      rw [hAt_succ hs, dlt_opn ho]; omega
theorem end_exists {L : List St} (hb : IsBlk L) {i : Nat} {s : St} (hs : L[i]? = some s) (ho : opn s = true) : ∃ e, IsEnd L i e := by
  have hi := (List.getElem?_eq_some_iff.1 hs).1
  rcases end_search hs ho L.length hi (Nat.le_refl _) with h | ⟨e, _, he⟩
  · have h1 := h L.length hi (Nat.le_refl _)
    have h2 := (blk_bounds hb i).1
    rw [hb.2.1] at h1; omega
  · exact ⟨e, he⟩
theorem IsEnd.opens {L : List St} {i e : Nat} (h : IsEnd L i e) : ∃ s, L[i]? = some s ∧ opn s = true := by
  obtain ⟨s, hi⟩ := at_lt (show i < L.length by have := h.1; have := h.2.1; omega)
  refine ⟨s, hi, ?_⟩
  have h1 := hAt_succ hi
  have h2 := h.2.2.2 (i + 1) (by omega) h.1
  rcases dlt_cases s with ⟨ho, _⟩ | ⟨_, _, hd⟩ | ⟨_, _, hd⟩
  · exact ho
  · omega
  · omega

/-- What EndOf must give. -/
def EndIs (L : List St) (i : Int) (x : Int) : Prop :=
  (∃ j e : Nat, i = j ∧ IsBlk L ∧ IsEnd L j e ∧ x = e) ∨ (x = -1 ∧ ∀ j e : Nat, i = j → IsBlk L → ¬ IsEnd L j e)
theorem EndIs.unique {L : List St} {i x y : Int} (h : EndIs L i x) (h' : EndIs L i y) : x = y := by
  rcases h with ⟨j, e, hj, hb, he, rfl⟩ | ⟨rfl, h⟩ <;> rcases h' with ⟨j', e', hj', hb', he', rfl⟩ | ⟨rfl, h'⟩
  · obtain rfl : j = j' := by omega
    rw [he.unique he']
  · exact absurd he (h' j e hj hb)
  · exact absurd he' (h j' e' hj' hb')
  · rfl
/-- What DepthOf must give. -/
def DepthIs (L : List St) (i : Int) (x : Int) : Prop :=
  (∃ j : Nat, i = j ∧ j < L.length ∧ IsBlk L ∧ x = hAt L j) ∨ (x = -1 ∧ ∀ j : Nat, i = j → j < L.length → ¬ IsBlk L)
theorem DepthIs.unique {L : List St} {i x y : Int} (h : DepthIs L i x) (h' : DepthIs L i y) : x = y := by
  rcases h with ⟨j, hj, hl, hb, rfl⟩ | ⟨rfl, h⟩ <;> rcases h' with ⟨j', hj', hl', hb', rfl⟩ | ⟨rfl, h'⟩
  · obtain rfl : j = j' := by omega
    rfl
  · exact absurd hb (h' j hj hl)
  · exact absurd hb' (h j' hj' hl')
  · rfl
end Go.Proofs.YtmgeecdgebemdaaGreatDoor.blk

/- Blocks as heights, on: how many statements are open at a place; how many statements run. Plain mathematics. -/
namespace Go.Proofs.YtmgeecdgebemdaaGreatDoor.blk
open Go Go.Proofs.YtmgeecdgebemdaaGreatDoor.stm

/-- The statement 'k' is still open at 'i'. -/
def OpenAt (L : List St) (i k : Nat) : Prop := ∀ t, k < t → t ≤ i → hAt L k < hAt L t
theorem openAt_end {L : List St} {i k e : Nat} (h : IsEnd L k e) : i ≤ e ↔ OpenAt L i k := by
  refine ⟨fun hi t h1 h2 => h.2.2.2 t h1 (by omega), fun ho => ?_⟩
  rcases Nat.lt_or_ge e i with hlt | hge
  · have h1 := ho (e + 1) (by have := h.1; omega) (by omega)
    rw [h.2.2.1] at h1; omega
  · exact hge
theorem openAt_opn {L : List St} {i k : Nat} {s : St} (hs : L[k]? = some s) (hk : k < i) (h : OpenAt L i k) : opn s = true := by
  have h1 := h (k + 1) (by omega) (by omega)
  rw [hAt_succ hs] at h1
  rcases dlt_cases s with ⟨ho, _⟩ | ⟨_, _, hd⟩ | ⟨_, _, hd⟩
  · exact ho
  · omega
  · omega
/-- The least height from 'k' to 'i'. -/
def IsMin (L : List St) (i k : Nat) (m : Int) : Prop := (∀ t, k ≤ t → t ≤ i → m ≤ hAt L t) ∧ ∃ t, k ≤ t ∧ t ≤ i ∧ hAt L t = m
theorem isMin_start {L : List St} (h : IsBlk L) (i : Nat) : IsMin L i 0 0 := ⟨fun t _ _ => (blk_bounds h t).1, 0, Nat.le_refl _, Nat.zero_le _, hAt_zero L⟩
theorem isMin_end {L : List St} {i : Nat} {m : Int} (h : IsMin L i i m) : m = hAt L i := by
  obtain ⟨_, t, h1, h2, rfl⟩ := h
  rw [show t = i by omega]
theorem isMin_open {L : List St} {i k : Nat} {m : Int} (h : IsMin L i k m) (hk : k < i) (hl : i ≤ L.length) (ho : OpenAt L i k) : IsMin L i (k + 1) (m + 1) := by
  obtain ⟨s, hs⟩ := at_lt (show k < L.length by omega)
  have h1 := hAt_succ hs
  rw [dlt_opn (openAt_opn hs hk ho)] at h1
  obtain ⟨ha, t, ht1, ht2, hte⟩ := h
  have hkm : hAt L k = m := by
    by_cases e : t = k
    · rw [← e, hte]
    · have := ho t (by omega) ht2
      have := ha k (Nat.le_refl _) (by omega)
      omega
  exact ⟨fun u hu1 hu2 => by have := ho u (by omega) hu2; omega, k + 1, Nat.le_refl _, by omega, by omega⟩
theorem isMin_shut {L : List St} {i k : Nat} {m : Int} (h : IsMin L i k m) (_hk : k < i) (ho : ¬ OpenAt L i k) : IsMin L i (k + 1) m := by
  obtain ⟨ha, t, ht1, ht2, hte⟩ := h
  refine ⟨fun u hu1 hu2 => ha u (by omega) hu2, ?_⟩
  by_cases e : t = k
  · subst e
    have hex : ∃ u, t < u ∧ u ≤ i ∧ hAt L u ≤ hAt L t := by
      refine Classical.byContradiction fun hn => ho fun u h1 h2 => ?_
      rcases Int.lt_or_le (hAt L t) (hAt L u) with h3 | h3
      · exact h3
      · exact absurd ⟨u, h1, h2, h3⟩ hn
    obtain ⟨u, h1, h2, h3⟩ := hex
    have := ha u (by omega) h2
    exact ⟨u, by omega, h2, by omega⟩
  · exact ⟨t, by omega, ht2, hte⟩

/-- A stretch at one height: it ends where it began, and never goes below. -/
def Flat (L : List St) (a b : Nat) : Prop := a ≤ b ∧ b ≤ L.length ∧ hAt L b = hAt L a ∧ ∀ t, a ≤ t → t ≤ b → hAt L a ≤ hAt L t
theorem flat_all {L : List St} (h : IsBlk L) : Flat L 0 L.length := ⟨Nat.zero_le _, Nat.le_refl _, by rw [h.2.1, hAt_zero], fun t _ _ => by rw [hAt_zero]; exact (blk_bounds h t).1⟩
theorem flat_body {L : List St} {i e : Nat} (h : IsEnd L i e) : Flat L (i + 1) e := by
  obtain ⟨s, hs, ho⟩ := h.opens
  have h1 := hAt_succ hs
  rw [dlt_opn ho] at h1
  have h2 := h.depth
  exact ⟨h.1, by have := h.2.1; omega, by omega, fun t ht1 ht2 => by have := h.2.2.2 t (by omega) ht2; omega⟩
/-- Within a stretch, at its own height, no end stands. -/
theorem flat_not_end {L : List St} {a b i : Nat} {s : St} (h : Flat L a b) (hi : i < b) (ha : a ≤ i) (he : hAt L i = hAt L a) (hs : L[i]? = some s) : s.k ≠ 6 := fun h6 => by
  have h1 := hAt_succ hs
  rw [dlt_end h6] at h1
  have := h.2.2.2 (i + 1) (by omega) (by omega)
  omega
/-- Within a stretch, a statement that opens at its height has its end within it. -/
theorem flat_end {L : List St} {a b i e : Nat} (h : Flat L a b) (hi : i < b) (he : hAt L i = hAt L a) (hE : IsEnd L i e) : e < b := by
  rcases Nat.lt_or_ge e b with hlt | hge
  · exact hlt
  · have := hE.2.2.2 b hi hge
    rw [h.2.2.1] at this; omega

/-- So many statements run from 'a' up to 'b', if every condition holds. -/
inductive Runs (L : List St) : Nat → Nat → Int → Prop
  | nil (a : Nat) : Runs L a a 0
  | one (a b : Nat) (x : Int) (s : St) (hs : L[a]? = some s) (ho : opn s = false) (h6 : s.k ≠ 6) (hr : Runs L (a + 1) b x) : Runs L a b (1 + x)
  | nest (a e b : Nat) (x y : Int) (s : St) (hs : L[a]? = some s) (he : IsEnd L a e) (hb : Runs L (a + 1) e x) (hr : Runs L (e + 1) b y) : Runs L a b (max 1 s.n * x + y)
theorem Runs.le {L : List St} {a b : Nat} {x : Int} (h : Runs L a b x) : a ≤ b := by
  induction h with
  | nil => exact Nat.le_refl _
  | one => omega
  | nest a e b x y s hs he hb hr _ ih => have := he.1; omega
theorem Runs.unique {L : List St} {a b : Nat} {x : Int} (h : Runs L a b x) : ∀ {y : Int}, Runs L a b y → x = y := by
  induction h with
  | nil a =>
    intro y h'
    cases h' with
    | nil => rfl
    | one _ _ z s hs ho _ hr => have := hr.le; omega
    | nest _ e _ z u s hs he hb hr => have := hr.le; have := he.1; omega
  | one a b x s hs ho h6 hr ih =>
    intro y h'
    cases h' with
    | nil => have := hr.le; omega
    | one _ _ z s' hs' ho' _ hr' => rw [ih hr']
    | nest _ e _ z u s' hs' he' hb' hr' =>
      obtain ⟨s2, hs2, ho2⟩ := he'.opens
      rw [hs] at hs2; cases hs2; rw [ho] at ho2; cases ho2
  | nest a e b x y s hs he hb hr ih1 ih2 =>
    intro z h'
    cases h' with
    | nil => have := hr.le; have := he.1; omega
    | one _ _ u s' hs' ho' _ hr' =>
      obtain ⟨s2, hs2, ho2⟩ := he.opens
      rw [hs'] at hs2; cases hs2; rw [ho'] at ho2; cases ho2
    | nest _ e' _ u v s' hs' he' hb' hr' =>
      obtain rfl := he.unique he'
      rw [hs] at hs'; cases hs'
      rw [ih1 hb', ih2 hr']
theorem Runs.app {L : List St} {a b c : Nat} {x y : Int} (h : Runs L a b x) (h' : Runs L b c y) : Runs L a c (x + y) := by
  induction h with
  | nil => rw [Int.zero_add]; exact h'
  | one a b x s hs ho h6 hr ih => rw [Int.add_assoc]; exact .one a c _ s hs ho h6 (ih h')
  | nest a e b x z s hs he hb hr _ ih => rw [Int.add_assoc]; exact .nest a e c x _ s hs he hb (ih h')
theorem Runs.snoc {L : List St} {a b : Nat} {x : Int} {s : St} (h : Runs L a b x) (hs : L[b]? = some s) (ho : opn s = false) (h6 : s.k ≠ 6) : Runs L a (b + 1) (x + 1) := by
  have := h.app (.one b (b + 1) 0 s hs ho h6 (.nil _))
  simpa using this
theorem Runs.snest {L : List St} {a b e : Nat} {x y : Int} {s : St} (h : Runs L a b x) (hs : L[b]? = some s) (he : IsEnd L b e) (hy : Runs L (b + 1) e y) : Runs L a (e + 1) (x + max 1 s.n * y) := by
  have := h.app (.nest b e (e + 1) y 0 s hs he hy (.nil _))
  simpa using this
/-- A valid statement's number is at most 5. -/
theorem n_le {s : St} (h : stOk s = true) : s.n ≤ 5 := by
  unfold stOk at h
  split at h
  · simp at h; omega
  split at h
  · simp at h; omega
  split at h
  · simp at h; omega
  split at h
  · simp at h; omega
  split at h
  · simp at h; omega
  split at h
  · simp at h; omega
  · cases h
def p5 (h : Int) : Int := if h ≤ 0 then 125 else if h = 1 then 25 else if h = 2 then 5 else 1
theorem Runs.bound {L : List St} (hb : IsBlk L) {a b : Nat} {x : Int} (h : Runs L a b x) : ∀ H : Int, hAt L a = H → 0 ≤ x ∧ x ≤ (b - a : Int) * p5 H := by
  induction h with
  | nil a => intro H _; simp
  | one a b x s hs ho h6 hr ih =>
    intro H hH
    have h1 := hAt_succ hs
    rw [dlt_flat ho h6] at h1
    have h2 := ih H (by omega)
    have : (1 : Int) ≤ p5 H := by unfold p5; split <;> (try split) <;> (try split) <;> omega
    refine ⟨by omega, ?_⟩
    have e : ((b : Int) - a) * p5 H = ((b : Int) - ((a + 1 : Nat) : Int)) * p5 H + p5 H := by
      rw [show (b : Int) - a = ((b : Int) - ((a + 1 : Nat) : Int)) + 1 by omega, Int.add_mul, Int.one_mul]
    rw [e]; omega
  | nest a e b x y s hs he hbb hr ih1 ih2 =>
    intro H hH
    obtain ⟨s2, hs2, ho2⟩ := he.opens
    have h1 := hAt_succ hs2
    rw [dlt_opn ho2] at h1
    have h2 := (blk_bounds hb (a + 1)).2
    have h3 := (blk_bounds hb a).1
    have hx := ih1 (H + 1) (by omega)
    have hy := ih2 H (by rw [he.2.2.1, hH])
    have hn := n_le (blk_stOk hb hs)
    have hae := he.1
    have hle := hr.le
    obtain ⟨m, hm⟩ : ∃ m, max 1 s.n = m := ⟨_, rfl⟩
    have hm1 : 1 ≤ m ∧ m ≤ 5 := by omega
    rw [hm]
    have hmx : 0 ≤ m * x := Int.mul_nonneg (by omega) hx.1
    have hmx5 : m * x ≤ 5 * x := Int.mul_le_mul_of_nonneg_right hm1.2 hx.1
    rcases (show H = 0 ∨ H = 1 ∨ H = 2 by omega) with rfl | rfl | rfl
    · simp only [p5] at hx hy ⊢; simp at hx hy ⊢; omega
    · simp only [p5] at hx hy ⊢; simp at hx hy ⊢; omega
    · simp only [p5] at hx hy ⊢; simp at hx hy ⊢; omega
theorem runs_small {L : List St} (hb : IsBlk L) {a b : Nat} {x : Int} (h : Runs L a b x) (hl : b ≤ L.length) : 0 ≤ x ∧ x ≤ 3000 := by
  have h1 := h.bound hb (hAt L a) rfl
  have h2 : p5 (hAt L a) ≤ 125 ∧ 0 ≤ p5 (hAt L a) := by unfold p5; split <;> (try split) <;> (try split) <;> omega
  have h3 := h.le
  have h4 := hb.2.2
  have h5 : ((b : Int) - a) * p5 (hAt L a) ≤ ((b : Int) - a) * 125 := Int.mul_le_mul_of_nonneg_left h2.1 (by omega)
  omega
/-- What LongestRun must give. -/
def LongIs (L : List St) (x : Int) : Prop := (IsBlk L ∧ Runs L 0 L.length x) ∨ (x = -1 ∧ ¬ IsBlk L)
theorem LongIs.unique {L : List St} {x y : Int} (h : LongIs L x) (h' : LongIs L y) : x = y := by
  rcases h with ⟨hb, h⟩ | ⟨rfl, h⟩ <;> rcases h' with ⟨hb', h'⟩ | ⟨rfl, h'⟩
  · exact h.unique h'
  · exact absurd hb h'
  · exact absurd hb' h
  · rfl
theorem blk_dec (L : List St) : ∃ r : Bool, r = true ↔ IsBlk L := by
  rcases Classical.em (IsBlk L) with h | h
  · exact ⟨true, fun _ => h, fun _ => rfl⟩
  · exact ⟨false, fun e => (by cases e), fun e => absurd e h⟩
theorem endIs_ex (L : List St) (i : Int) : ∃ X, EndIs L i X := by
  rcases Classical.em (∃ j e : Nat, i = j ∧ IsBlk L ∧ IsEnd L j e) with ⟨j, e, h1, h2, h3⟩ | h
  · exact ⟨e, .inl ⟨j, e, h1, h2, h3, rfl⟩⟩
  · exact ⟨-1, .inr ⟨rfl, fun j e h1 h2 h3 => h ⟨j, e, h1, h2, h3⟩⟩⟩
theorem depthIs_ex (L : List St) (i : Int) : ∃ X, DepthIs L i X := by
  rcases Classical.em (∃ j : Nat, i = j ∧ j < L.length ∧ IsBlk L) with ⟨j, h1, h2, h3⟩ | h
  · exact ⟨hAt L j, .inl ⟨j, h1, h2, h3, rfl⟩⟩
  · exact ⟨-1, .inr ⟨rfl, fun j h1 h2 h3 => h ⟨j, h1, h2, h3⟩⟩⟩
/-- A stretch at one height has a count. -/
theorem runs_ex {L : List St} (hb : IsBlk L) : ∀ (m a b : Nat), b - a ≤ m → Flat L a b → ∃ x, Runs L a b x := by
  intro m
  induction m with
  | zero => intro a b hm hF; obtain rfl : a = b := by have := hF.1; omega
            exact ⟨0, .nil _⟩
  | succ m ih =>
    intro a b hm hF
    by_cases hab : a = b
    · subst hab; exact ⟨0, .nil _⟩
    · have hlt : a < b := by have := hF.1; omega
      obtain ⟨s, hs⟩ := at_lt (show a < L.length by have := hF.2.1; omega)
      have h6 := flat_not_end hF hlt (Nat.le_refl _) rfl hs
      have h1 := hAt_succ hs
      cases ho : opn s
      · rw [dlt_flat ho h6] at h1
        obtain ⟨x, hx⟩ := ih (a + 1) b (by omega) ⟨by omega, hF.2.1, by have := hF.2.2.1; omega, fun t h2 h3 => by have := hF.2.2.2 t (by omega) h3; omega⟩
        exact ⟨_, .one a b x s hs ho h6 hx⟩
      · obtain ⟨e, he⟩ := end_exists hb hs ho
        have heb := flat_end hF hlt rfl he
        have hae := he.1
        obtain ⟨x, hx⟩ := ih (a + 1) e (by omega) (flat_body he)
        obtain ⟨y, hy⟩ := ih (e + 1) b (by omega) ⟨by omega, hF.2.1, by rw [he.2.2.1]; exact hF.2.2.1, fun t h2 h3 => by rw [he.2.2.1]; exact hF.2.2.2 t (by omega) h3⟩
        exact ⟨_, .nest a e b x y s hs he hx hy⟩
theorem longIs_ex (L : List St) : ∃ X, LongIs L X := by
  rcases Classical.em (IsBlk L) with h | h
  · obtain ⟨x, hx⟩ := runs_ex h L.length 0 L.length (by omega) (flat_all h)
    exact ⟨x, .inl ⟨h, hx⟩⟩
  · exact ⟨-1, .inr ⟨rfl, h⟩⟩
end Go.Proofs.YtmgeecdgebemdaaGreatDoor.blk

/- The numbers of the variables that two operands name: found by a search from 0 on, or collected, sorted and made single: the same list. Plain mathematics; no condition but that the operands are valid. -/
namespace Go.Proofs.YtmgeecdgebemdaaGreatDoor.expr

/-- The numbers below 'k' that one of the operands names. -/
def rd (a b : Int) (k : Nat) : List Int := ((List.range k).filter fun (j : Nat) => decide (a = -1 - (j : Int)) || decide (b = -1 - (j : Int))).map fun (j : Nat) => (j : Int)
theorem rd_zero (a b : Int) : rd a b 0 = [] := rfl
theorem rd_yes {a b : Int} {k : Nat} (h : a = -1 - (k : Int) ∨ b = -1 - (k : Int)) : rd a b (k + 1) = rd a b k ++ [(k : Int)] := by
  have hc : (decide (a = -1 - (k : Int)) || decide (b = -1 - (k : Int))) = true := by simpa using h
  simp [rd, List.range_succ, hc]
theorem rd_no {a b : Int} {k : Nat} (h : ¬ (a = -1 - (k : Int) ∨ b = -1 - (k : Int))) : rd a b (k + 1) = rd a b k := by
  have hc : (decide (a = -1 - (k : Int)) || decide (b = -1 - (k : Int))) = false := by simpa using h
  simp [rd, List.range_succ, hc]
theorem rd_len (a b : Int) (k : Nat) : (rd a b k).length ≤ k := by
  unfold rd; rw [List.length_map]; exact Nat.le_trans (List.length_filter_le _ _) (by simp)
theorem rd_b {a b : Int} (h : 0 ≤ b) (k : Nat) : rd a b k = rd a 0 k := by
  unfold rd; congr 1; apply List.filter_congr; intro j _
  have h1 : ¬ b = -1 - (j : Int) := by omega
  have h2 : ¬ (0 : Int) = -1 - (j : Int) := by omega
  simp only [h1, h2]
theorem rd_a {a b : Int} (h : 0 ≤ a) (k : Nat) : rd a b k = rd 0 b k := by
  unfold rd; congr 1; apply List.filter_congr; intro j _
  have h1 : ¬ a = -1 - (j : Int) := by omega
  have h2 : ¬ (0 : Int) = -1 - (j : Int) := by omega
  simp only [h1, h2]

/-- The variable that an operand names, if it does. -/
def vk (x : Int) : List Int := if x < 0 then [-1 - x] else []
theorem vk_neg {x : Int} (h : x < 0) : vk x = [-1 - x] := by simp [vk, h]
theorem vk_pos {x : Int} (h : ¬ x < 0) : vk x = [] := by simp [vk, h]
theorem compact0 : Lib.compact ([] : List Int) = [] := by simp [Lib.compact, Lib.compactUpTo]
theorem compact1 (x : Int) : Lib.compact [x] = [x] := by simp [Lib.compact, Lib.compactUpTo, Lib.keeps, List.range_succ]
theorem compact2 (x y : Int) : Lib.compact [x, y] = if x = y then [x] else [x, y] := by
  by_cases h : x = y
  · subst h; simp [Lib.compact, Lib.compactUpTo, Lib.keeps, List.range_succ]
  · have h' : ¬ y = x := fun e => h e.symm
    simp [Lib.compact, Lib.compactUpTo, Lib.keeps, List.range_succ, h, h']
def srt (L : List Int) : List Int := L.mergeSort fun x y => decide (x ≤ y)
theorem srt0 : srt [] = [] := by simp [srt]
theorem srt1 (x : Int) : srt [x] = [x] := by simp [srt]
theorem srt2 (x y : Int) : srt [x, y] = if x ≤ y then [x, y] else [y, x] := by
  unfold srt
  by_cases h : x ≤ y <;> simp [List.mergeSort, h]
theorem one_rd (i : Fin 8) : rd (-1 - (i.val : Int)) 0 8 = [(i.val : Int)] ∧ rd 0 (-1 - (i.val : Int)) 8 = [(i.val : Int)] := by
  revert i; decide
theorem two_rd (i j : Fin 8) : rd (-1 - (i.val : Int)) (-1 - (j.val : Int)) 8 = if (i.val : Int) = j.val then [(i.val : Int)] else if (i.val : Int) ≤ j.val then [(i.val : Int), (j.val : Int)] else [(j.val : Int), (i.val : Int)] := by
  revert i j; decide
theorem reads_same (a b : Int) (ha : -8 ≤ a) (hb : -8 ≤ b) : Lib.compact (srt (vk a ++ vk b)) = rd a b 8 := by
  by_cases h1 : a < 0 <;> by_cases h2 : b < 0
  · obtain ⟨i, hi, rfl⟩ : ∃ i : Nat, i < 8 ∧ a = -1 - (i : Int) := ⟨(-1 - a).toNat, by omega, by omega⟩
    obtain ⟨j, hj, rfl⟩ : ∃ j : Nat, j < 8 ∧ b = -1 - (j : Int) := ⟨(-1 - b).toNat, by omega, by omega⟩
    have e := two_rd ⟨i, hi⟩ ⟨j, hj⟩
    simp only at e
    rw [e, vk_neg h1, vk_neg h2, show (-1 - (-1 - (i : Int))) = i by omega, show (-1 - (-1 - (j : Int))) = j by omega]
    show Lib.compact (srt [(i : Int), (j : Int)]) = _
    rw [srt2]
    by_cases hle : (i : Int) ≤ j
    · simp only [if_pos hle, compact2]
    · have he : ¬ (j : Int) = i := by omega
      have he' : ¬ (i : Int) = j := by omega
      simp only [if_neg hle, compact2, if_neg he, if_neg he']
  · obtain ⟨i, hi, rfl⟩ : ∃ i : Nat, i < 8 ∧ a = -1 - (i : Int) := ⟨(-1 - a).toNat, by omega, by omega⟩
    rw [rd_b (by omega), vk_neg h1, vk_pos h2, show (-1 - (-1 - (i : Int))) = i by omega, List.append_nil, srt1, compact1]
    exact (one_rd ⟨i, hi⟩).1.symm
  · obtain ⟨j, hj, rfl⟩ : ∃ j : Nat, j < 8 ∧ b = -1 - (j : Int) := ⟨(-1 - b).toNat, by omega, by omega⟩
    rw [rd_a (by omega), vk_neg h2, vk_pos h1, show (-1 - (-1 - (j : Int))) = j by omega, List.nil_append, srt1, compact1]
    exact (one_rd ⟨j, hj⟩).2.symm
  · rw [rd_a (by omega), rd_b (by omega), vk_pos h1, vk_pos h2, List.nil_append, srt0, compact0]; decide
end Go.Proofs.YtmgeecdgebemdaaGreatDoor.expr

/- The sets of variables of a block: what may be written, what is certainly written ahead of a place, what can be read before it is written. Plain mathematics. -/
namespace Go.Proofs.YtmgeecdgebemdaaGreatDoor.sets
open Go Go.Proofs.YtmgeecdgebemdaaGreatDoor.stm Go.Proofs.YtmgeecdgebemdaaGreatDoor.blk Go.Proofs.YtmgeecdgebemdaaGreatDoor.expr

abbrev Sm := Go.Proofs.YtmgeecdgebemdaaGreatDoor.stm.St
/-- The statement writes its variable. -/
def wr (s : Sm) : Prop := s.k = 1 ∨ s.k = 2
/-- The statement reads its expression. -/
def rds (s : Sm) : Prop := s.k = 1 ∨ s.k = 3 ∨ s.k = 4
/-- The variables of a set, in ascending order, below 'k'. -/
def lst (f : Nat → Bool) (k : Nat) : List Int := ((List.range k).filter f).map fun (j : Nat) => (j : Int)
theorem lst_zero (f : Nat → Bool) : lst f 0 = [] := rfl
theorem lst_yes {f : Nat → Bool} {k : Nat} (h : f k = true) : lst f (k + 1) = lst f k ++ [(k : Int)] := by simp [lst, List.range_succ, h]
theorem lst_no {f : Nat → Bool} {k : Nat} (h : f k = false) : lst f (k + 1) = lst f k := by simp [lst, List.range_succ, h]
theorem lst_len (f : Nat → Bool) (k : Nat) : (lst f k).length ≤ k := by
  have := List.length_filter_le f (List.range k)
  simpa [lst] using this
theorem lst_congr {f g : Nat → Bool} {k : Nat} (h : ∀ v, v < k → f v = g v) : lst f k = lst g k := by
  unfold lst
  rw [List.filter_congr (fun v hv => h v (List.mem_range.1 hv))]
theorem lst_mem {f : Nat → Bool} {k v : Nat} : (v : Int) ∈ lst f k ↔ v < k ∧ f v = true := by
  unfold lst
  simp only [List.mem_map, List.mem_filter, List.mem_range]
  constructor
  · rintro ⟨a, h, e⟩
    obtain rfl : a = v := by omega
    exact h
  · exact fun h => ⟨v, h, rfl⟩
theorem lst_nil {f : Nat → Bool} (h : ∀ v, f v = false) : ∀ k, lst f k = []
  | 0 => rfl
  | k + 1 => by rw [lst_no (h k), lst_nil h k]
/-- The statement 'j' writes the variable 'v'. -/
def WrAt (B : List Sm) (j v : Nat) : Prop := ∃ s, B[j]? = some s ∧ wr s ∧ s.v = v
/-- Written ahead of the place 'p', in some execution. -/
def MayTo (B : List Sm) (p v : Nat) : Prop := ∃ j, j < p ∧ WrAt B j v
/-- The place 'p' lies inside the condition 'i'. -/
def InIf (B : List Sm) (i p : Nat) : Prop := ∃ e s, B[i]? = some s ∧ s.k = 4 ∧ IsEnd B i e ∧ i < p ∧ p ≤ e
/-- Certainly written ahead of the place 'p'. -/
def WAt (B : List Sm) (p v : Nat) : Prop := ∃ j, j < p ∧ WrAt B j v ∧ ∀ i, InIf B i j → InIf B i p
/-- The statement 'j' reads the variable 'v'. -/
def RdAt (B : List Sm) (j v : Nat) : Prop := ∃ s, B[j]? = some s ∧ rds s ∧ (v : Int) ∈ rd s.a s.b 8
/-- Read ahead of the place 'p', before it is certainly written. -/
def FAt (B : List Sm) (p v : Nat) : Prop := ∃ j, j < p ∧ RdAt B j v ∧ ¬ WAt B j v

theorem mayTo_zero {B : List Sm} {v : Nat} : ¬ MayTo B 0 v := fun ⟨j, h, _⟩ => by omega
theorem mayTo_succ {B : List Sm} {p v : Nat} : MayTo B (p + 1) v ↔ MayTo B p v ∨ WrAt B p v := by
  constructor
  · rintro ⟨j, hj, h⟩
    by_cases e : j = p
    · subst e; exact .inr h
    · exact .inl ⟨j, by omega, h⟩
  · rintro (⟨j, hj, h⟩ | h)
    · exact ⟨j, by omega, h⟩
    · exact ⟨p, by omega, h⟩
/-- Ends are nested. -/
theorem end_in {B : List Sm} {i e i' e' : Nat} (h : IsEnd B i e) (h' : IsEnd B i' e') (h1 : i' < i) (h2 : i ≤ e') : e < e' := by
  have a1 := h'.2.2.2 i h1 h2
  rcases Nat.lt_trichotomy e e' with hlt | rfl | hlt
  · exact hlt
  · have := h.2.2.1; have := h'.2.2.1; omega
  · have := h.2.2.2 (e' + 1) (by omega) (by omega); have := h'.2.2.1; omega
theorem wAt_zero {B : List Sm} {v : Nat} : ¬ WAt B 0 v := fun ⟨j, h, _⟩ => by omega
theorem WrAt.not6 {B : List Sm} {j v i e : Nat} (h : WrAt B j v) (he : IsEnd B i e) : j ≠ e := by
  rintro rfl
  obtain ⟨s, hs, hw, _⟩ := h
  obtain ⟨t, ht, h6⟩ := he.kind
  rw [hs] at ht
  cases ht
  rcases hw with h | h <;> omega
/-- One place on, where no condition ends. -/
theorem wAt_succ {B : List Sm} {p v : Nat} (hp : ∀ i s, B[i]? = some s → s.k = 4 → ¬ IsEnd B i p) : WAt B (p + 1) v ↔ WAt B p v ∨ WrAt B p v := by
  constructor
  · rintro ⟨j, hj, hw, hi⟩
    by_cases e : j = p
    · subst e; exact .inr hw
    · refine .inl ⟨j, by omega, hw, fun i h => ?_⟩
      obtain ⟨e1, s1, h1, h2, h3, h4, h5⟩ := h
      obtain ⟨e2, s2, g1, g2, g3, g4, g5⟩ := hi i ⟨e1, s1, h1, h2, h3, h4, h5⟩
      exact ⟨e2, s2, g1, g2, g3, by omega, by omega⟩
  · rintro (⟨j, hj, hw, hi⟩ | hw)
    · refine ⟨j, by omega, hw, fun i h => ?_⟩
      obtain ⟨e2, s2, g1, g2, g3, g4, g5⟩ := hi i h
      have : p ≠ e2 := fun e => hp i s2 g1 g2 (by rw [e]; exact g3)
      exact ⟨e2, s2, g1, g2, g3, by omega, by omega⟩
    · refine ⟨p, by omega, hw, fun i h => ?_⟩
      obtain ⟨e2, s2, g1, g2, g3, g4, g5⟩ := h
      have := hw.not6 g3
      exact ⟨e2, s2, g1, g2, g3, by omega, by omega⟩
/-- A condition discards what it wrote. -/
theorem wAt_if {B : List Sm} {i e v : Nat} {s : Sm} (hs : B[i]? = some s) (h4 : s.k = 4) (he : IsEnd B i e) : WAt B (e + 1) v ↔ WAt B i v := by
  constructor
  · rintro ⟨j, hj, hw, hi⟩
    have hji : j < i := by
      by_cases h : j < i
      · exact h
      · exfalso
        by_cases e2 : j = i
        · subst e2
          obtain ⟨t, ht, hw2, _⟩ := hw
          rw [hs] at ht; cases ht
          rcases hw2 with h | h <;> omega
        · obtain ⟨e2, s2, g1, g2, g3, g4, g5⟩ := hi i ⟨e, s, hs, h4, he, by omega, by omega⟩
          have := he.unique g3
          omega
    refine ⟨j, hji, hw, fun i' h => ?_⟩
    obtain ⟨e1, s1, h1, h2, h3, h5, h6⟩ := h
    obtain ⟨e2, s2, g1, g2, g3, g4, g5⟩ := hi i' ⟨e1, s1, h1, h2, h3, h5, h6⟩
    have := he.1
    exact ⟨e2, s2, g1, g2, g3, by omega, by omega⟩
  · rintro ⟨j, hj, hw, hi⟩
    refine ⟨j, by have := he.1; omega, hw, fun i' h => ?_⟩
    obtain ⟨e2, s2, g1, g2, g3, g4, g5⟩ := hi i' h
    have := end_in he g3 g4 g5
    exact ⟨e2, s2, g1, g2, g3, by have := he.1; omega, by omega⟩
theorem fAt_zero {B : List Sm} {v : Nat} : ¬ FAt B 0 v := fun ⟨j, h, _⟩ => by omega
theorem fAt_succ {B : List Sm} {p v : Nat} : FAt B (p + 1) v ↔ FAt B p v ∨ (RdAt B p v ∧ ¬ WAt B p v) := by
  constructor
  · rintro ⟨j, hj, h⟩
    by_cases e : j = p
    · subst e; exact .inr h
    · exact .inl ⟨j, by omega, h⟩
  · rintro (⟨j, hj, h⟩ | h)
    · exact ⟨j, by omega, h⟩
    · exact ⟨p, by omega, h⟩
/-- The end reads and writes nothing. -/
theorem end_nothing {B : List Sm} {i e v : Nat} (he : IsEnd B i e) : ¬ WrAt B e v ∧ ¬ RdAt B e v := by
  obtain ⟨t, ht, h6⟩ := he.kind
  constructor
  · rintro ⟨s, hs, hw, _⟩
    rw [hs] at ht; cases ht
    rcases hw with h | h <;> omega
  · rintro ⟨s, hs, hw, _⟩
    rw [hs] at ht; cases ht
    rcases hw with h | h | h <;> omega
/-- No condition is around the place. -/
def Out (B : List Sm) (p : Nat) : Prop := ∀ i, ¬ InIf B i p
theorem Out.zero (B : List Sm) : Out B 0 := fun i ⟨_, _, _, _, _, h, _⟩ => by omega
theorem Out.noEnd {B : List Sm} {p : Nat} (h : Out B p) : ∀ i s, B[i]? = some s → s.k = 4 → ¬ IsEnd B i p := fun i s hs h4 he => h i ⟨p, s, hs, h4, he, he.1, Nat.le_refl _⟩
theorem Out.succ {B : List Sm} {p : Nat} {s : Sm} (h : Out B p) (hs : B[p]? = some s) (h4 : s.k ≠ 4) : Out B (p + 1) := fun i ⟨e, t, h1, h2, h3, h5, h6⟩ => by
  by_cases e1 : i = p
  · subst e1; rw [hs] at h1; cases h1; exact h4 h2
  · exact h i ⟨e, t, h1, h2, h3, by omega, by omega⟩
theorem Out.jump {B : List Sm} {i e : Nat} (h : Out B i) (he : IsEnd B i e) : Out B (e + 1) := fun i' ⟨e', t, h1, h2, h3, h5, h6⟩ => by
  rcases Nat.lt_trichotomy i' i with hlt | rfl | hlt
  · exact h i' ⟨e', t, h1, h2, h3, hlt, by have := he.1; omega⟩
  · have := he.unique h3; omega
  · have := end_in h3 he hlt (by omega); omega
/-- A part of a block that begins and ends at the same height and is nowhere lower. -/
def Seg (B : List Sm) (a b : Nat) : Prop := a ≤ b ∧ b ≤ B.length ∧ hAt B b = hAt B a ∧ ∀ j, a ≤ j → j ≤ b → hAt B a ≤ hAt B j
theorem Seg.all {B : List Sm} (h : IsBlk B) : Seg B 0 B.length := ⟨Nat.zero_le _, Nat.le_refl _, by rw [h.2.1, hAt_zero], fun j _ _ => by rw [hAt_zero]; exact (blk_bounds h j).1⟩
theorem Seg.not6 {B : List Sm} {a b p : Nat} {s : Sm} (h : Seg B a b) (hp : a ≤ p) (hpb : p < b) (hh : hAt B p = hAt B a) (hs : B[p]? = some s) : s.k ≠ 6 := fun h6 => by
  have h1 := hAt_succ hs
  rw [dlt_end h6] at h1
  have := h.2.2.2 (p + 1) (by omega) (by omega)
  omega
theorem Seg.noEnd {B : List Sm} {a b p : Nat} (h : Seg B a b) (hp : a ≤ p) (hpb : p < b) (hh : hAt B p = hAt B a) : ∀ i s, B[i]? = some s → s.k = 4 → ¬ IsEnd B i p := fun i s _ _ he => by
  obtain ⟨t, ht, h6⟩ := he.kind
  exact h.not6 hp hpb hh ht h6
theorem Seg.inner {B : List Sm} {a b i e : Nat} (h : Seg B a b) (hib : i < b) (hh : hAt B i = hAt B a) (he : IsEnd B i e) : e < b ∧ Seg B (i + 1) e ∧ hAt B (e + 1) = hAt B a := by
  have h1 := he.2.2.1
  have heb : e < b := by
    by_cases h9 : e < b
    · exact h9
    · have := he.2.2.2 b hib (by omega); have := h.2.2.1; omega
  obtain ⟨s, hs, ho⟩ := he.opens
  have h2 := hAt_succ hs
  rw [dlt_opn ho] at h2
  refine ⟨heb, ⟨by have := he.1; omega, by have := h.2.1; omega, ?_, fun j h3 h4 => ?_⟩, by omega⟩
  · have := he.depth; omega
  · have := he.2.2.2 j (by omega) h4; omega
end Go.Proofs.YtmgeecdgebemdaaGreatDoor.sets
