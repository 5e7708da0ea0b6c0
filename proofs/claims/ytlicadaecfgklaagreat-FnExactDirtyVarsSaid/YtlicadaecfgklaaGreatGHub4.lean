/- Several texts in one: BlkB. -/
import Derived.Test.YtlicadaecfgklaaGreatGHub3

/- Blocks as heights, on: how many statements are open at a place; how many statements run. Plain mathematics. -/
namespace Go.Proofs.YtlicadaecfgklaaGreat.blk
open Go Go.Proofs.YtlicadaecfgklaaGreat.stm

/-- The statement 'k' is still open at 'i'. -/
def OpenAt (L : List St) (i k : Nat) : Prop := ∀ t, k < t → t ≤ i → hAt L k < hAt L t
theorem openAt_end {L : List St} {i k e : Nat} (h : IsEnd L k e) : i ≤ e ↔ OpenAt L i k := by
  refine ⟨fun hi t h1 h2 => h.2.2.2 t h1 (by omega), fun ho => ?_⟩
  rcases Nat.lt_or_ge e i with hlt | hge
  · have h1 := ho (e + 1) (by have := h.1; omega) (by omega)
    rw [h.2.2.1] at h1; omega
  · exact hge
theorem openAt_opn {L : List St} {i k : Nat} {s : St} (hs : L[k]? = some s) (hk : k < i) (h : OpenAt L i k) : opn s = true := by
  have h1 := h (k + 1) (by omega) (by omega)
  rw [hAt_succ hs] at h1
  rcases dlt_cases s with ⟨ho, _⟩ | ⟨_, _, hd⟩ | ⟨_, _, hd⟩
  · exact ho
  · omega
  · omega
/-- The least height from 'k' to 'i'. -/
def IsMin (L : List St) (i k : Nat) (m : Int) : Prop := (∀ t, k ≤ t → t ≤ i → m ≤ hAt L t) ∧ ∃ t, k ≤ t ∧ t ≤ i ∧ hAt L t = m
theorem isMin_start {L : List St} (h : IsBlk L) (i : Nat) : IsMin L i 0 0 := ⟨fun t _ _ => (blk_bounds h t).1, 0, Nat.le_refl _, Nat.zero_le _, hAt_zero L⟩
theorem isMin_end {L : List St} {i : Nat} {m : Int} (h : IsMin L i i m) : m = hAt L i := by
  obtain ⟨_, t, h1, h2, rfl⟩ := h
  rw [show t = i by omega]
theorem isMin_open {L : List St} {i k : Nat} {m : Int} (h : IsMin L i k m) (hk : k < i) (hl : i ≤ L.length) (ho : OpenAt L i k) : IsMin L i (k + 1) (m + 1) := by
  obtain ⟨s, hs⟩ := at_lt (show k < L.length by omega)
  have h1 := hAt_succ hs
  rw [dlt_opn (openAt_opn hs hk ho)] at h1
  obtain ⟨ha, t, ht1, ht2, hte⟩ := h
  have hkm : hAt L k = m := by
    by_cases e : t = k
    · rw [← e, hte]
    · have := ho t (by omega) ht2
      have := ha k (Nat.le_refl _) (by omega)
      omega
  exact ⟨fun u hu1 hu2 => by have := ho u (by omega) hu2; omega, k + 1, Nat.le_refl _, by omega, by omega⟩
theorem isMin_shut {L : List St} {i k : Nat} {m : Int} (h : IsMin L i k m) (_hk : k < i) (ho : ¬ OpenAt L i k) : IsMin L i (k + 1) m := by
  obtain ⟨ha, t, ht1, ht2, hte⟩ := h
  refine ⟨fun u hu1 hu2 => ha u (by omega) hu2, ?_⟩
  by_cases e : t = k
  · subst e
    have hex : ∃ u, t < u ∧ u ≤ i ∧ hAt L u ≤ hAt L t := by
      refine Classical.byContradiction fun hn => ho fun u h1 h2 => ?_
      rcases Int.lt_or_le (hAt L t) (hAt L u) with h3 | h3
      · exact h3
      · exact absurd ⟨u, h1, h2, h3⟩ hn
    obtain ⟨u, h1, h2, h3⟩ := hex
    have := ha u (by omega) h2
    exact ⟨u, by omega, h2, by omega⟩
  · exact ⟨t, by omega, ht2, hte⟩

/-- A stretch at one height: it ends where it began, and never goes below. -/
def Flat (L : List St) (a b : Nat) : Prop := a ≤ b ∧ b ≤ L.length ∧ hAt L b = hAt L a ∧ ∀ t, a ≤ t → t ≤ b → hAt L a ≤ hAt L t
theorem flat_all {L : List St} (h : IsBlk L) : Flat L 0 L.length := ⟨Nat.zero_le _, Nat.le_refl _, by rw [h.2.1, hAt_zero], fun t _ _ => by rw [hAt_zero]; exact (blk_bounds h t).1⟩
theorem flat_body {L : List St} {i e : Nat} (h : IsEnd L i e) : Flat L (i + 1) e := by
  obtain ⟨s, hs, ho⟩ := h.opens
  have h1 := hAt_succ hs
  rw [dlt_opn ho] at h1
  have h2 := h.depth
  exact ⟨h.1, by have := h.2.1; omega, by omega, fun t ht1 ht2 => by have := h.2.2.2 t (by omega) ht2; omega⟩
/-- Within a stretch, at its own height, no end stands. -/
theorem flat_not_end {L : List St} {a b i : Nat} {s : St} (h : Flat L a b) (hi : i < b) (ha : a ≤ i) (he : hAt L i = hAt L a) (hs : L[i]? = some s) : s.k ≠ 6 := fun h6 => by
  have h1 := hAt_succ hs
  rw [dlt_end h6] at h1
  have := h.2.2.2 (i + 1) (by omega) (by omega)
  omega
/-- Within a stretch, a statement that opens at its height has its end within it. -/
theorem flat_end {L : List St} {a b i e : Nat} (h : Flat L a b) (hi : i < b) (he : hAt L i = hAt L a) (hE : IsEnd L i e) : e < b := by
  rcases Nat.lt_or_ge e b with hlt | hge
  · exact hlt
  · have := hE.2.2.2 b hi hge
    rw [h.2.2.1] at this; omega

/-- So many statements run from 'a' up to 'b', if every condition holds. -/
inductive Runs (L : List St) : Nat → Nat → Int → Prop
  | nil (a : Nat) : Runs L a a 0
  | one (a b : Nat) (x : Int) (s : St) (hs : L[a]? = some s) (ho : opn s = false) (h6 : s.k ≠ 6) (hr : Runs L (a + 1) b x) : Runs L a b (1 + x)
  | nest (a e b : Nat) (x y : Int) (s : St) (hs : L[a]? = some s) (he : IsEnd L a e) (hb : Runs L (a + 1) e x) (hr : Runs L (e + 1) b y) : Runs L a b (max 1 s.n * x + y)
theorem Runs.le {L : List St} {a b : Nat} {x : Int} (h : Runs L a b x) : a ≤ b := by
  induction h with
  | nil => exact Nat.le_refl _
  | one => omega
  | nest a e b x y s hs he hb hr _ ih => have := he.1; omega
theorem Runs.unique {L : List St} {a b : Nat} {x : Int} (h : Runs L a b x) : ∀ {y : Int}, Runs L a b y → x = y := by
  induction h with
  | nil a =>
    intro y h'
    cases h' with
    | nil => rfl
    | one _ _ z s hs ho _ hr => have := hr.le; omega
    | nest _ e _ z u s hs he hb hr => have := hr.le; have := he.1; omega
  | one a b x s hs ho h6 hr ih =>
    intro y h'
    cases h' with
    | nil => have := hr.le; omega
    | one _ _ z s' hs' ho' _ hr' => rw [ih hr']
    | nest _ e _ z u s' hs' he' hb' hr' =>
      obtain ⟨s2, hs2, ho2⟩ := he'.opens
      rw [hs] at hs2; cases hs2; rw [ho] at ho2; cases ho2
  | nest a e b x y s hs he hb hr ih1 ih2 =>
    intro z h'
    cases h' with
    | nil => have := hr.le; have := he.1; omega
    | one _ _ u s' hs' ho' _ hr' =>
      obtain ⟨s2, hs2, ho2⟩ := he.opens
      rw [hs'] at hs2; cases hs2; rw [ho'] at ho2; cases ho2
    | nest _ e' _ u v s' hs' he' hb' hr' =>
      obtain rfl := he.unique he'
      rw [hs] at hs'; cases hs'
      rw [ih1 hb', ih2 hr']
theorem Runs.app {L : List St} {a b c : Nat} {x y : Int} (h : Runs L a b x) (h' : Runs L b c y) : Runs L a c (x + y) := by
  induction h with
  | nil => rw [Int.zero_add]; exact h'
  | one a b x s hs ho h6 hr ih => rw [Int.add_assoc]; exact .one a c _ s hs ho h6 (ih h')
  | nest a e b x z s hs he hb hr _ ih => rw [Int.add_assoc]; exact .nest a e c x _ s hs he hb (ih h')
theorem Runs.snoc {L : List St} {a b : Nat} {x : Int} {s : St} (h : Runs L a b x) (hs : L[b]? = some s) (ho : opn s = false) (h6 : s.k ≠ 6) : Runs L a (b + 1) (x + 1) := by
  have := h.app (.one b (b + 1) 0 s hs ho h6 (.nil _))
  simpa using this
theorem Runs.snest {L : List St} {a b e : Nat} {x y : Int} {s : St} (h : Runs L a b x) (hs : L[b]? = some s) (he : IsEnd L b e) (hy : Runs L (b + 1) e y) : Runs L a (e + 1) (x + max 1 s.n * y) := by
  have := h.app (.nest b e (e + 1) y 0 s hs he hy (.nil _))
  simpa using this
/-- A valid statement's number is at most 5. -/
theorem n_le {s : St} (h : stOk s = true) : s.n ≤ 5 := by
  unfold stOk at h
  split at h
  · simp at h; omega
  split at h
  · simp at h; omega
  split at h
  · simp at h; omega
  split at h
  · simp at h; omega
  split at h
  · simp at h; omega
  split at h
  · simp at h; omega
  · cases h
def p5 (h : Int) : Int := if h ≤ 0 then 125 else if h = 1 then 25 else if h = 2 then 5 else 1
theorem Runs.bound {L : List St} (hb : IsBlk L) {a b : Nat} {x : Int} (h : Runs L a b x) : ∀ H : Int, hAt L a = H → 0 ≤ x ∧ x ≤ (b - a : Int) * p5 H := by
  induction h with
  | nil a => intro H _; simp
  | one a b x s hs ho h6 hr ih =>
    intro H hH
    have h1 := hAt_succ hs
    rw [dlt_flat ho h6] at h1
    have h2 := ih H (by omega)
    have : (1 : Int) ≤ p5 H := by unfold p5; split <;> (try split) <;> (try split) <;> omega
    refine ⟨by omega, ?_⟩
    have e : ((b : Int) - a) * p5 H = ((b : Int) - ((a + 1 : Nat) : Int)) * p5 H + p5 H := by
      rw [show (b : Int) - a = ((b : Int) - ((a + 1 : Nat) : Int)) + 1 by omega, Int.add_mul, Int.one_mul]
    rw [e]; omega
  | nest a e b x y s hs he hbb hr ih1 ih2 =>
    intro H hH
    obtain ⟨s2, hs2, ho2⟩ := he.opens
    have h1 := hAt_succ hs2
    rw [dlt_opn ho2] at h1
    have h2 := (blk_bounds hb (a + 1)).2
    have h3 := (blk_bounds hb a).1
    have hx := ih1 (H + 1) (by omega)
    have hy := ih2 H (by rw [he.2.2.1, hH])
    have hn := n_le (blk_stOk hb hs)
    have hae := he.1
    have hle := hr.le
    obtain ⟨m, hm⟩ : ∃ m, max 1 s.n = m := ⟨_, rfl⟩
    have hm1 : 1 ≤ m ∧ m ≤ 5 := by omega
    rw [hm]
    have hmx : 0 ≤ m * x := Int.mul_nonneg (by omega) hx.1
    have hmx5 : m * x ≤ 5 * x := Int.mul_le_mul_of_nonneg_right hm1.2 hx.1
    rcases (show H = 0 ∨ H = 1 ∨ H = 2 by omega) with rfl | rfl | rfl
    · simp only [p5] at hx hy ⊢; simp at hx hy ⊢; omega
    · simp only [p5] at hx hy ⊢; simp at hx hy ⊢; omega
    · simp only [p5] at hx hy ⊢; simp at hx hy ⊢; omega
theorem runs_small {L : List St} (hb : IsBlk L) {a b : Nat} {x : Int} (h : Runs L a b x) (hl : b ≤ L.length) : 0 ≤ x ∧ x ≤ 3000 := by
  have h1 := h.bound hb (hAt L a) rfl
  have h2 : p5 (hAt L a) ≤ 125 ∧ 0 ≤ p5 (hAt L a) := by unfold p5; split <;> (try split) <;> (try split) <;> omega
  have h3 := h.le
  have h4 := hb.2.2
  have h5 : ((b : Int) - a) * p5 (hAt L a) ≤ ((b : Int) - a) * 125 := Int.mul_le_mul_of_nonneg_left h2.1 (by omega)
  omega
/-- What LongestRun must give. -/
def LongIs (L : List St) (x : Int) : Prop := (IsBlk L ∧ Runs L 0 L.length x) ∨ (x = -1 ∧ ¬ IsBlk L)
theorem LongIs.unique {L : List St} {x y : Int} (h : LongIs L x) (h' : LongIs L y) : x = y := by
  rcases h with ⟨hb, h⟩ | ⟨rfl, h⟩ <;> rcases h' with ⟨hb', h'⟩ | ⟨rfl, h'⟩
  · exact h.unique h'
  · exact absurd hb h'
  · exact absurd hb' h
  · rfl
theorem blk_dec (L : List St) : ∃ r : Bool, r = true ↔ IsBlk L := by
  rcases Classical.em (IsBlk L) with h | h
  · exact ⟨true, fun _ => h, fun _ => rfl⟩
  · exact ⟨false, fun e => (by cases e), fun e => absurd e h⟩
theorem endIs_ex (L : List St) (i : Int) : ∃ X, EndIs L i X := by
  rcases Classical.em (∃ j e : Nat, i = j ∧ IsBlk L ∧ IsEnd L j e) with ⟨j, e, h1, h2, h3⟩ | h
  · exact ⟨e, .inl ⟨j, e, h1, h2, h3, rfl⟩⟩
  · exact ⟨-1, .inr ⟨rfl, fun j e h1 h2 h3 => h ⟨j, e, h1, h2, h3⟩⟩⟩
theorem depthIs_ex (L : List St) (i : Int) : ∃ X, DepthIs L i X := by
  rcases Classical.em (∃ j : Nat, i = j ∧ j < L.length ∧ IsBlk L) with ⟨j, h1, h2, h3⟩ | h
  · exact ⟨hAt L j, .inl ⟨j, h1, h2, h3, rfl⟩⟩
  · exact ⟨-1, .inr ⟨rfl, fun j h1 h2 h3 => h ⟨j, h1, h2, h3⟩⟩⟩
/-- A stretch at one height has a count. -/
theorem runs_ex {L : List St} (hb : IsBlk L) : ∀ (m a b : Nat), b - a ≤ m → Flat L a b → ∃ x, Runs L a b x := by
  intro m
  induction m with
  | zero => intro a b hm hF; obtain rfl : a = b := by have := hF.1; omega
            exact ⟨0, .nil _⟩
  | succ m ih =>
    intro a b hm hF
    by_cases hab : a = b
    · subst hab; exact ⟨0, .nil _⟩
    · have hlt : a < b := by have := hF.1; omega
      obtain ⟨s, hs⟩ := at_lt (show a < L.length by have := hF.2.1; omega)
      have h6 := flat_not_end hF hlt (Nat.le_refl _) rfl hs
      have h1 := hAt_succ hs
      cases ho : opn s
      · rw [dlt_flat ho h6] at h1
        obtain ⟨x, hx⟩ := ih (a + 1) b (by omega) ⟨by omega, hF.2.1, by have := hF.2.2.1; omega, fun t h2 h3 => by have := hF.2.2.2 t (by omega) h3; omega⟩
        exact ⟨_, .one a b x s hs ho h6 hx⟩
      · obtain ⟨e, he⟩ := end_exists hb hs ho
        have heb := flat_end hF hlt rfl he
        have hae := he.1
        obtain ⟨x, hx⟩ := ih (a + 1) e (by omega) (flat_body he)
        obtain ⟨y, hy⟩ := ih (e + 1) b (by omega) ⟨by omega, hF.2.1, by rw [he.2.2.1]; exact hF.2.2.1, fun t h2 h3 => by rw [he.2.2.1]; exact hF.2.2.2 t (by omega) h3⟩
        exact ⟨_, .nest a e b x y s hs he hx hy⟩
theorem longIs_ex (L : List St) : ∃ X, LongIs L X := by
  rcases Classical.em (IsBlk L) with h | h
  · obtain ⟨x, hx⟩ := runs_ex h L.length 0 L.length (by omega) (flat_all h)
    exact ⟨x, .inl ⟨h, hx⟩⟩
  · exact ⟨-1, .inr ⟨rfl, h⟩⟩
end Go.Proofs.YtlicadaecfgklaaGreat.blk
