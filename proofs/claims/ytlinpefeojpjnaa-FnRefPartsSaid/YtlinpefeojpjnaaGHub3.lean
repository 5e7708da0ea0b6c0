/- Several texts in one: BlkA BlkB. -/
import Derived.Test.YtlinpefeojpjnaaGHub2

/- Blocks as heights: a statement that opens raises the height, an end lowers it; a block is valid if the height stays between 0 and 3 and ends at 0; the matching end, the depth. Plain mathematics. -/
namespace Go.Proofs.Ytlinpefeojpjnaa.blk
open Go Go.Proofs.Ytlinpefeojpjnaa.stm

abbrev St := Go.Proofs.Ytlinpefeojpjnaa.stm.St
def opn (s : St) : Bool := s.k == 4 || s.k == 5
def dlt (s : St) : Int := if s.k = 4 ∨ s.k = 5 then 1 else if s.k = 6 then -1 else 0
/-- The height behind a list of statements. -/
def ht (L : List St) : Int := (L.map dlt).sum
def hAt (L : List St) (i : Nat) : Int := ht (L.take i)
theorem hAt_zero (L : List St) : hAt L 0 = 0 := rfl
theorem hAt_succ {L : List St} {i : Nat} {s : St} (h : L[i]? = some s) : hAt L (i + 1) = hAt L i + dlt s := by
  unfold hAt ht; rw [List.take_add_one, h]; simp [List.sum_append]
theorem hAt_end (L : List St) {i : Nat} (h : L.length ≤ i) : hAt L i = hAt L L.length := by
  unfold hAt; rw [List.take_of_length_le h, List.take_of_length_le (Nat.le_refl _)]
theorem dlt_opn {s : St} (h : opn s = true) : dlt s = 1 := by
  unfold opn at h; unfold dlt; rw [if_pos (by simpa using h)]
theorem dlt_end {s : St} (h : s.k = 6) : dlt s = -1 := by
  unfold dlt; rw [if_neg (by omega), if_pos h]
theorem dlt_flat {s : St} (h : opn s = false) (h6 : s.k ≠ 6) : dlt s = 0 := by
  unfold opn at h; unfold dlt; rw [if_neg (by simpa using h), if_neg h6]
theorem dlt_cases (s : St) : (opn s = true ∧ s.k ≠ 6 ∧ dlt s = 1) ∨ (opn s = false ∧ s.k = 6 ∧ dlt s = -1) ∨ (opn s = false ∧ s.k ≠ 6 ∧ dlt s = 0) := by
  by_cases ho : opn s = true
  · refine .inl ⟨ho, ?_, dlt_opn ho⟩
    intro e; unfold opn at ho; rw [e] at ho; simp at ho
  · have ho' : opn s = false := by simpa using ho
    by_cases h6 : s.k = 6
    · exact .inr (.inl ⟨ho', h6, dlt_end h6⟩)
    · exact .inr (.inr ⟨ho', h6, dlt_flat ho' h6⟩)
/-- The block is valid up to the statement 'n'. -/
def OkTo (L : List St) (n : Nat) : Prop := ∀ j s, j < n → L[j]? = some s → stOk s = true ∧ 0 ≤ hAt L (j + 1) ∧ hAt L (j + 1) ≤ 3
/-- A valid block. -/
def IsBlk (L : List St) : Prop := OkTo L L.length ∧ hAt L L.length = 0 ∧ L.length ≤ 24
theorem okTo_zero (L : List St) : OkTo L 0 := fun j s h => by omega
theorem okTo_succ {L : List St} {n : Nat} {s : St} (h : OkTo L n) (hs : L[n]? = some s) (h1 : stOk s = true) (h2 : 0 ≤ hAt L (n + 1)) (h3 : hAt L (n + 1) ≤ 3) : OkTo L (n + 1) := fun j t hj ht => by
  by_cases e : j = n
  · subst e; rw [hs] at ht; cases ht; exact ⟨h1, h2, h3⟩
  · exact h j t (by omega) ht
theorem not_blk_at {L : List St} {n : Nat} {s : St} (hs : L[n]? = some s) (h : stOk s = false ∨ hAt L (n + 1) < 0 ∨ 3 < hAt L (n + 1)) : ¬ IsBlk L := fun hb => by
  obtain ⟨h1, h2, h3⟩ := hb.1 n s (List.getElem?_eq_some_iff.1 hs).1 hs
  rcases h with h | h | h
  · rw [h] at h1; cases h1
  · omega
  · omega
theorem blk_bounds {L : List St} (h : IsBlk L) (i : Nat) : 0 ≤ hAt L i ∧ hAt L i ≤ 3 := by
  rcases Nat.eq_zero_or_pos i with rfl | hi
  · rw [hAt_zero]; omega
  · obtain ⟨j, rfl⟩ : ∃ j, i = j + 1 := ⟨i - 1, by omega⟩
    by_cases hj : j < L.length
    · exact (h.1 j L[j] hj (by simp [hj])).2
    · rw [hAt_end L (by omega), h.2.1]; omega
theorem blk_stOk {L : List St} (h : IsBlk L) {i : Nat} {s : St} (hs : L[i]? = some s) : stOk s = true := (h.1 i s (List.getElem?_eq_some_iff.1 hs).1 hs).1

/-- The end 'e' of the statement 'i': the height comes back there for the first time. -/
def IsEnd (L : List St) (i e : Nat) : Prop := i < e ∧ e < L.length ∧ hAt L (e + 1) = hAt L i ∧ ∀ j, i < j → j ≤ e → hAt L i < hAt L j
theorem IsEnd.unique {L : List St} {i e f : Nat} (h : IsEnd L i e) (h' : IsEnd L i f) : e = f := by
  rcases Nat.lt_trichotomy e f with hlt | rfl | hlt
  · have := h'.2.2.2 (e + 1) (by have := h.1; omega) (by omega); rw [h.2.2.1] at this; omega
  · rfl
  · have := h.2.2.2 (f + 1) (by have := h'.1; omega) (by omega); rw [h'.2.2.1] at this; omega
theorem at_lt {L : List St} {i : Nat} (h : i < L.length) : ∃ s, L[i]? = some s := ⟨L[i], by simp [h]⟩
theorem IsEnd.kind {L : List St} {i e : Nat} (h : IsEnd L i e) : ∃ s, L[e]? = some s ∧ s.k = 6 := by
  obtain ⟨s, he⟩ := at_lt h.2.1
  refine ⟨s, he, ?_⟩
  have h1 := hAt_succ he
  have h2 := h.2.2.2 e h.1 (Nat.le_refl _)
  have h3 := h.2.2.1
  rcases dlt_cases s with ⟨_, _, hd⟩ | ⟨_, h6, _⟩ | ⟨_, _, hd⟩
  · omega
  · exact h6
  · omega
theorem IsEnd.depth {L : List St} {i e : Nat} (h : IsEnd L i e) : hAt L e = hAt L i + 1 := by
  obtain ⟨s, hs, h6⟩ := h.kind
  have h1 := hAt_succ hs
  rw [dlt_end h6, h.2.2.1] at h1
  omega
/-- From a statement that opens on, the height comes back: there is an end, if there is a place where it is as low. -/
theorem end_search {L : List St} {i : Nat} {s : St} (hs : L[i]? = some s) (ho : opn s = true) : ∀ n, i < n → n ≤ L.length → (∀ j, i < j → j ≤ n → hAt L i < hAt L j) ∨ ∃ e, e < n ∧ IsEnd L i e := by
  intro n
  induction n with
  | zero => intro h; omega
  | succ n ih =>
    intro hi hn
    by_cases hin : i < n
    · rcases ih hin (by omega) with h | ⟨e, he, hE⟩
      · have hsn : L[n]? = some L[n] := by simp [show n < L.length by omega]
        have h1 := hAt_succ hsn
        have h2 := h n hin (Nat.le_refl _)
        rcases dlt_cases L[n] with ⟨_, _, hd⟩ | ⟨_, _, hd⟩ | ⟨_, _, hd⟩
        · left; intro j hj hjn
          by_cases e : j = n + 1
          · subst e; omega
          · exact h j hj (by omega)
        · by_cases heq : hAt L (n + 1) = hAt L i
          · exact .inr ⟨n, by omega, hin, by omega, heq, h⟩
          · left; intro j hj hjn
            by_cases e : j = n + 1
            · subst e; omega
            · exact h j hj (by omega)
        · left; intro j hj hjn
          by_cases e : j = n + 1
          · subst e; omega
          · exact h j hj (by omega)
      · exact .inr ⟨e, by omega, hE⟩
    · obtain rfl : i = n := by omega
      left; intro j hj hjn
      obtain rfl : j = i + 1 := by omega
      rw [hAt_succ hs, dlt_opn ho]; omega
theorem end_exists {L : List St} (hb : IsBlk L) {i : Nat} {s : St} (hs : L[i]? = some s) (ho : opn s = true) : ∃ e, IsEnd L i e := by
  have hi := (List.getElem?_eq_some_iff.1 hs).1
  rcases end_search hs ho L.length hi (Nat.le_refl _) with h | ⟨e, _, he⟩
  · have h1 := h L.length hi (Nat.le_refl _)
    have h2 := (blk_bounds hb i).1
    rw [hb.2.1] at h1; omega
  · exact ⟨e, he⟩
theorem IsEnd.opens {L : List St} {i e : Nat} (h : IsEnd L i e) : ∃ s, L[i]? = some s ∧ opn s = true := by
  obtain ⟨s, hi⟩ := at_lt (show i < L.length by have := h.1; have := h.2.1; omega)
  refine ⟨s, hi, ?_⟩
  have h1 := hAt_succ hi
  have h2 := h.2.2.2 (i + 1) (by omega) h.1
  rcases dlt_cases s with ⟨ho, _⟩ | ⟨_, _, hd⟩ | ⟨_, _, hd⟩
  · exact ho
  · omega
  · omega

/-- What EndOf must give. -/
def EndIs (L : List St) (i : Int) (x : Int) : Prop :=
  (∃ j e : Nat, i = j ∧ IsBlk L ∧ IsEnd L j e ∧ x = e) ∨ (x = -1 ∧ ∀ j e : Nat, i = j → IsBlk L → ¬ IsEnd L j e)
theorem EndIs.unique {L : List St} {i x y : Int} (h : EndIs L i x) (h' : EndIs L i y) : x = y := by
  rcases h with ⟨j, e, hj, hb, he, rfl⟩ | ⟨rfl, h⟩ <;> rcases h' with ⟨j', e', hj', hb', he', rfl⟩ | ⟨rfl, h'⟩
  · obtain rfl : j = j' := by omega
    rw [he.unique he']
  · exact absurd he (h' j e hj hb)
  · exact absurd he' (h j' e' hj' hb')
  · rfl
/-- What DepthOf must give. -/
def DepthIs (L : List St) (i : Int) (x : Int) : Prop :=
  (∃ j : Nat, i = j ∧ j < L.length ∧ IsBlk L ∧ x = hAt L j) ∨ (x = -1 ∧ ∀ j : Nat, i = j → j < L.length → ¬ IsBlk L)
theorem DepthIs.unique {L : List St} {i x y : Int} (h : DepthIs L i x) (h' : DepthIs L i y) : x = y := by
  rcases h with ⟨j, hj, hl, hb, rfl⟩ | ⟨rfl, h⟩ <;> rcases h' with ⟨j', hj', hl', hb', rfl⟩ | ⟨rfl, h'⟩
  · obtain rfl : j = j' := by omega
    rfl
  · exact absurd hb (h' j hj hl)
  · exact absurd hb' (h j' hj' hl')
  · rfl
end Go.Proofs.Ytlinpefeojpjnaa.blk

/- Blocks as heights, on: how many statements are open at a place; how many statements run. Plain mathematics. -/
namespace Go.Proofs.Ytlinpefeojpjnaa.blk
open Go Go.Proofs.Ytlinpefeojpjnaa.stm

/-- The statement 'k' is still open at 'i'. -/
def OpenAt (L : List St) (i k : Nat) : Prop := ∀ t, k < t → t ≤ i → hAt L k < hAt L t
theorem openAt_end {L : List St} {i k e : Nat} (h : IsEnd L k e) : i ≤ e ↔ OpenAt L i k := by
  refine ⟨fun hi t h1 h2 => h.2.2.2 t h1 (by omega), fun ho => ?_⟩
  rcases Nat.lt_or_ge e i with hlt | hge
  · have h1 := ho (e + 1) (by have := h.1; omega) (by omega)
    rw [h.2.2.1] at h1; omega
  · exact hge
theorem openAt_opn {L : List St} {i k : Nat} {s : St} (hs : L[k]? = some s) (hk : k < i) (h : OpenAt L i k) : opn s = true := by
  have h1 := h (k + 1) (by omega) (by omega)
  rw [hAt_succ hs] at h1
  rcases dlt_cases s with ⟨ho, _⟩ | ⟨_, _, hd⟩ | ⟨_, _, hd⟩
  · exact ho
  · omega
  · omega
/-- The least height from 'k' to 'i'. -/
def IsMin (L : List St) (i k : Nat) (m : Int) : Prop := (∀ t, k ≤ t → t ≤ i → m ≤ hAt L t) ∧ ∃ t, k ≤ t ∧ t ≤ i ∧ hAt L t = m
theorem isMin_start {L : List St} (h : IsBlk L) (i : Nat) : IsMin L i 0 0 := ⟨fun t _ _ => (blk_bounds h t).1, 0, Nat.le_refl _, Nat.zero_le _, hAt_zero L⟩
theorem isMin_end {L : List St} {i : Nat} {m : Int} (h : IsMin L i i m) : m = hAt L i := by
  obtain ⟨_, t, h1, h2, rfl⟩ := h
  rw [show t = i by omega]
theorem isMin_open {L : List St} {i k : Nat} {m : Int} (h : IsMin L i k m) (hk : k < i) (hl : i ≤ L.length) (ho : OpenAt L i k) : IsMin L i (k + 1) (m + 1) := by
  obtain ⟨s, hs⟩ := at_lt (show k < L.length by omega)
  have h1 := hAt_succ hs
  rw [dlt_opn (openAt_opn hs hk ho)] at h1
  obtain ⟨ha, t, ht1, ht2, hte⟩ := h
  have hkm : hAt L k = m := by
    by_cases e : t = k
    · rw [← e, hte]
    · have := ho t (by omega) ht2
      have := ha k (Nat.le_refl _) (by omega)
      omega
  exact ⟨fun u hu1 hu2 => by have := ho u (by omega) hu2; omega, k + 1, Nat.le_refl _, by omega, by omega⟩
theorem isMin_shut {L : List St} {i k : Nat} {m : Int} (h : IsMin L i k m) (_hk : k < i) (ho : ¬ OpenAt L i k) : IsMin L i (k + 1) m := by
  obtain ⟨ha, t, ht1, ht2, hte⟩ := h
  refine ⟨fun u hu1 hu2 => ha u (by omega) hu2, ?_⟩
  by_cases e : t = k
  · subst e
    have hex : ∃ u, t < u ∧ u ≤ i ∧ hAt L u ≤ hAt L t := by
      refine Classical.byContradiction fun hn => ho fun u h1 h2 => ?_
      rcases Int.lt_or_le (hAt L t) (hAt L u) with h3 | h3
      · exact h3
      · exact absurd ⟨u, h1, h2, h3⟩ hn
    obtain ⟨u, h1, h2, h3⟩ := hex
    have := ha u (by omega) h2
    exact ⟨u, by omega, h2, by omega⟩
  · exact ⟨t, by omega, ht2, hte⟩

/-- A stretch at one height: it ends where it began, and never goes below. -/
def Flat (L : List St) (a b : Nat) : Prop := a ≤ b ∧ b ≤ L.length ∧ hAt L b = hAt L a ∧ ∀ t, a ≤ t → t ≤ b → hAt L a ≤ hAt L t
theorem flat_all {L : List St} (h : IsBlk L) : Flat L 0 L.length := ⟨Nat.zero_le _, Nat.le_refl _, by rw [h.2.1, hAt_zero], fun t _ _ => by rw [hAt_zero]; exact (blk_bounds h t).1⟩
theorem flat_body {L : List St} {i e : Nat} (h : IsEnd L i e) : Flat L (i + 1) e := by
  obtain ⟨s, hs, ho⟩ := h.opens
  have h1 := hAt_succ hs
  rw [dlt_opn ho] at h1
  have h2 := h.depth
  exact ⟨h.1, by have := h.2.1; omega, by omega, fun t ht1 ht2 => by have := h.2.2.2 t (by omega) ht2; omega⟩
/-- Within a stretch, at its own height, no end stands. -/
theorem flat_not_end {L : List St} {a b i : Nat} {s : St} (h : Flat L a b) (hi : i < b) (ha : a ≤ i) (he : hAt L i = hAt L a) (hs : L[i]? = some s) : s.k ≠ 6 := fun h6 => by
  have h1 := hAt_succ hs
  rw [dlt_end h6] at h1
  have := h.2.2.2 (i + 1) (by omega) (by omega)
  omega
/-- Within a stretch, a statement that opens at its height has its end within it. -/
theorem flat_end {L : List St} {a b i e : Nat} (h : Flat L a b) (hi : i < b) (he : hAt L i = hAt L a) (hE : IsEnd L i e) : e < b := by
  rcases Nat.lt_or_ge e b with hlt | hge
  · exact hlt
  · have := hE.2.2.2 b hi hge
    rw [h.2.2.1] at this; omega

/-- So many statements run from 'a' up to 'b', if every condition holds. -/
inductive Runs (L : List St) : Nat → Nat → Int → Prop
  | nil (a : Nat) : Runs L a a 0
  | one (a b : Nat) (x : Int) (s : St) (hs : L[a]? = some s) (ho : opn s = false) (h6 : s.k ≠ 6) (hr : Runs L (a + 1) b x) : Runs L a b (1 + x)
  | nest (a e b : Nat) (x y : Int) (s : St) (hs : L[a]? = some s) (he : IsEnd L a e) (hb : Runs L (a + 1) e x) (hr : Runs L (e + 1) b y) : Runs L a b (max 1 s.n * x + y)
theorem Runs.le {L : List St} {a b : Nat} {x : Int} (h : Runs L a b x) : a ≤ b := by
  induction h with
  | nil => exact Nat.le_refl _
  | one => omega
  | nest a e b x y s hs he hb hr _ ih => have := he.1; omega
theorem Runs.unique {L : List St} {a b : Nat} {x : Int} (h : Runs L a b x) : ∀ {y : Int}, Runs L a b y → x = y := by
  induction h with
  | nil a =>
    intro y h'
    cases h' with
    | nil => rfl
    | one _ _ z s hs ho _ hr => have := hr.le; omega
    | nest _ e _ z u s hs he hb hr => have := hr.le; have := he.1; omega
  | one a b x s hs ho h6 hr ih =>
    intro y h'
    cases h' with
    | nil => have := hr.le; omega
    | one _ _ z s' hs' ho' _ hr' => rw [ih hr']
    | nest _ e _ z u s' hs' he' hb' hr' =>
      obtain ⟨s2, hs2, ho2⟩ := he'.opens
      rw [hs] at hs2; cases hs2; rw [ho] at ho2; cases ho2
  | nest a e b x y s hs he hb hr ih1 ih2 =>
    intro z h'
    cases h' with
    | nil => have := hr.le; have := he.1; omega
    | one _ _ u s' hs' ho' _ hr' =>
      obtain ⟨s2, hs2, ho2⟩ := he.opens
      rw [hs'] at hs2; cases hs2; rw [ho'] at ho2; cases ho2
    | nest _ e' _ u v s' hs' he' hb' hr' =>
      obtain rfl := he.unique he'
      rw [hs] at hs'; cases hs'
      rw [ih1 hb', ih2 hr']
theorem Runs.app {L : List St} {a b c : Nat} {x y : Int} (h : Runs L a b x) (h' : Runs L b c y) : Runs L a c (x + y) := by
  induction h with
  | nil => rw [Int.zero_add]; exact h'
  | one a b x s hs ho h6 hr ih => rw [Int.add_assoc]; exact .one a c _ s hs ho h6 (ih h')
  | nest a e b x z s hs he hb hr _ ih => rw [Int.add_assoc]; exact .nest a e c x _ s hs he hb (ih h')
theorem Runs.snoc {L : List St} {a b : Nat} {x : Int} {s : St} (h : Runs L a b x) (hs : L[b]? = some s) (ho : opn s = false) (h6 : s.k ≠ 6) : Runs L a (b + 1) (x + 1) := by
  have := h.app (.one b (b + 1) 0 s hs ho h6 (.nil _))
  simpa using this
theorem Runs.snest {L : List St} {a b e : Nat} {x y : Int} {s : St} (h : Runs L a b x) (hs : L[b]? = some s) (he : IsEnd L b e) (hy : Runs L (b + 1) e y) : Runs L a (e + 1) (x + max 1 s.n * y) := by
  have := h.app (.nest b e (e + 1) y 0 s hs he hy (.nil _))
  simpa using this
/-- A valid statement's number is at most 5. -/
theorem n_le {s : St} (h : stOk s = true) : s.n ≤ 5 := by
  unfold stOk at h
  split at h
  · simp at h; omega
  split at h
  · simp at h; omega
  split at h
  · simp at h; omega
  split at h
  · simp at h; omega
  split at h
  · simp at h; omega
  split at h
  · simp at h; omega
  · cases h
def p5 (h : Int) : Int := if h ≤ 0 then 125 else if h = 1 then 25 else if h = 2 then 5 else 1
theorem Runs.bound {L : List St} (hb : IsBlk L) {a b : Nat} {x : Int} (h : Runs L a b x) : ∀ H : Int, hAt L a = H → 0 ≤ x ∧ x ≤ (b - a : Int) * p5 H := by
  induction h with
  | nil a => intro H _; simp
  | one a b x s hs ho h6 hr ih =>
    intro H hH
    have h1 := hAt_succ hs
    rw [dlt_flat ho h6] at h1
    have h2 := ih H (by omega)
    have : (1 : Int) ≤ p5 H := by unfold p5; split <;> (try split) <;> (try split) <;> omega
    refine ⟨by omega, ?_⟩
    have e : ((b : Int) - a) * p5 H = ((b : Int) - ((a + 1 : Nat) : Int)) * p5 H + p5 H := by
      rw [show (b : Int) - a = ((b : Int) - ((a + 1 : Nat) : Int)) + 1 by omega, Int.add_mul, Int.one_mul]
    rw [e]; omega
  | nest a e b x y s hs he hbb hr ih1 ih2 =>
    intro H hH
    obtain ⟨s2, hs2, ho2⟩ := he.opens
    have h1 := hAt_succ hs2
    rw [dlt_opn ho2] at h1
    have h2 := (blk_bounds hb (a + 1)).2
    have h3 := (blk_bounds hb a).1
    have hx := ih1 (H + 1) (by omega)
    have hy := ih2 H (by rw [he.2.2.1, hH])
    have hn := n_le (blk_stOk hb hs)
    have hae := he.1
    have hle := hr.le
    obtain ⟨m, hm⟩ : ∃ m, max 1 s.n = m := ⟨_, rfl⟩
    have hm1 : 1 ≤ m ∧ m ≤ 5 := by omega
    rw [hm]
    have hmx : 0 ≤ m * x := Int.mul_nonneg (by omega) hx.1
    have hmx5 : m * x ≤ 5 * x := Int.mul_le_mul_of_nonneg_right hm1.2 hx.1
    rcases (show H = 0 ∨ H = 1 ∨ H = 2 by omega) with rfl | rfl | rfl
    · simp only [p5] at hx hy ⊢; simp at hx hy ⊢; omega
    · simp only [p5] at hx hy ⊢; simp at hx hy ⊢; omega
    · simp only [p5] at hx hy ⊢; simp at hx hy ⊢; omega
theorem runs_small {L : List St} (hb : IsBlk L) {a b : Nat} {x : Int} (h : Runs L a b x) (hl : b ≤ L.length) : 0 ≤ x ∧ x ≤ 3000 := by
  have h1 := h.bound hb (hAt L a) rfl
  have h2 : p5 (hAt L a) ≤ 125 ∧ 0 ≤ p5 (hAt L a) := by unfold p5; split <;> (try split) <;> (try split) <;> omega
  have h3 := h.le
  have h4 := hb.2.2
  have h5 : ((b : Int) - a) * p5 (hAt L a) ≤ ((b : Int) - a) * 125 := Int.mul_le_mul_of_nonneg_left h2.1 (by omega)
  omega
/-- What LongestRun must give. -/
def LongIs (L : List St) (x : Int) : Prop := (IsBlk L ∧ Runs L 0 L.length x) ∨ (x = -1 ∧ ¬ IsBlk L)
theorem LongIs.unique {L : List St} {x y : Int} (h : LongIs L x) (h' : LongIs L y) : x = y := by
  rcases h with ⟨hb, h⟩ | ⟨rfl, h⟩ <;> rcases h' with ⟨hb', h'⟩ | ⟨rfl, h'⟩
  · exact h.unique h'
  · exact absurd hb h'
  · exact absurd hb' h
  · rfl
theorem blk_dec (L : List St) : ∃ r : Bool, r = true ↔ IsBlk L := by
  rcases Classical.em (IsBlk L) with h | h
  · exact ⟨true, fun _ => h, fun _ => rfl⟩
  · exact ⟨false, fun e => (by cases e), fun e => absurd e h⟩
theorem endIs_ex (L : List St) (i : Int) : ∃ X, EndIs L i X := by
  rcases Classical.em (∃ j e : Nat, i = j ∧ IsBlk L ∧ IsEnd L j e) with ⟨j, e, h1, h2, h3⟩ | h
  · exact ⟨e, .inl ⟨j, e, h1, h2, h3, rfl⟩⟩
  · exact ⟨-1, .inr ⟨rfl, fun j e h1 h2 h3 => h ⟨j, e, h1, h2, h3⟩⟩⟩
theorem depthIs_ex (L : List St) (i : Int) : ∃ X, DepthIs L i X := by
  rcases Classical.em (∃ j : Nat, i = j ∧ j < L.length ∧ IsBlk L) with ⟨j, h1, h2, h3⟩ | h
  · exact ⟨hAt L j, .inl ⟨j, h1, h2, h3, rfl⟩⟩
  · exact ⟨-1, .inr ⟨rfl, fun j h1 h2 h3 => h ⟨j, h1, h2, h3⟩⟩⟩
/-- A stretch at one height has a count. -/
theorem runs_ex {L : List St} (hb : IsBlk L) : ∀ (m a b : Nat), b - a ≤ m → Flat L a b → ∃ x, Runs L a b x := by
  intro m
  induction m with
  | zero => intro a b hm hF; obtain rfl : a = b := by have := hF.1; omega
            exact ⟨0, .nil _⟩
  | succ m ih =>
    intro a b hm hF
    by_cases hab : a = b
    · subst hab; exact ⟨0, .nil _⟩
    · have hlt : a < b := by have := hF.1; omega
      obtain ⟨s, hs⟩ := at_lt (show a < L.length by have := hF.2.1; omega)
      have h6 := flat_not_end hF hlt (Nat.le_refl _) rfl hs
      have h1 := hAt_succ hs
      cases ho : opn s
      · rw [dlt_flat ho h6] at h1
        obtain ⟨x, hx⟩ := ih (a + 1) b (by omega) ⟨by omega, hF.2.1, by have := hF.2.2.1; omega, fun t h2 h3 => by have := hF.2.2.2 t (by omega) h3; omega⟩
        exact ⟨_, .one a b x s hs ho h6 hx⟩
      · obtain ⟨e, he⟩ := end_exists hb hs ho
        have heb := flat_end hF hlt rfl he
        have hae := he.1
        obtain ⟨x, hx⟩ := ih (a + 1) e (by omega) (flat_body he)
        obtain ⟨y, hy⟩ := ih (e + 1) b (by omega) ⟨by omega, hF.2.1, by rw [he.2.2.1]; exact hF.2.2.1, fun t h2 h3 => by rw [he.2.2.1]; exact hF.2.2.2 t (by omega) h3⟩
        exact ⟨_, .nest a e b x y s hs he hx hy⟩
theorem longIs_ex (L : List St) : ∃ X, LongIs L X := by
  rcases Classical.em (IsBlk L) with h | h
  · obtain ⟨x, hx⟩ := runs_ex h L.length 0 L.length (by omega) (flat_all h)
    exact ⟨x, .inl ⟨h, hx⟩⟩
  · exact ⟨-1, .inr ⟨rfl, h⟩⟩
end Go.Proofs.Ytlinpefeojpjnaa.blk
