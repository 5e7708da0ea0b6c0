/- Several texts in one: VBlkA VBlkB VTkA. -/
import Derived.Test.YtmgeecdgebemdaaGreatDoorGSigV1
import Derived.Test.YtmgeecdgebemdaaGreatDoorGSigV2

/- Blocks as heights: a statement that opens raises the height, an end lowers it; a block is valid if the height stays between 0 and 3 and ends at 0; the matching end, the depth. Plain mathematics. -/
namespace Go.Proofs.YtmgeecdgebemdaaGreatDoor.blk
open Go Go.Proofs.YtmgeecdgebemdaaGreatDoor.stm
abbrev St := Go.Proofs.YtmgeecdgebemdaaGreatDoor.stm.St
def opn (s : St) : Bool := s.k == 4 || s.k == 5
def dlt (s : St) : Int := if s.k = 4 ∨ s.k = 5 then 1 else if s.k = 6 then -1 else 0
/-- The height behind a list of statements. -/
def ht (L : List St) : Int := (L.map dlt).sum
def hAt (L : List St) (i : Nat) : Int := ht (L.take i)
theorem hAt_zero (L : List St) : hAt L 0 = 0 := rfl
theorem hAt_succ {L : List St} {i : Nat} {s : St} (h : L[i]? = some s) : hAt L (i + 1) = hAt L i + dlt s := by
  unfold hAt ht; rw [List.take_add_one, h]; simp [List.sum_append]
theorem hAt_end (L : List St) {i : Nat} (h : L.length ≤ i) : hAt L i = hAt L L.length := by
  unfold hAt; rw [List.take_of_length_le h, List.take_of_length_le (Nat.le_refl _)]
theorem dlt_opn {s : St} (h : opn s = true) : dlt s = 1 := by
  unfold opn at h; unfold dlt; rw [if_pos (by simpa using h)]
theorem dlt_end {s : St} (h : s.k = 6) : dlt s = -1 := by
  unfold dlt; rw [if_neg (by omega), if_pos h]
theorem dlt_flat {s : St} (h : opn s = false) (h6 : s.k ≠ 6) : dlt s = 0 := by
  unfold opn at h; unfold dlt; rw [if_neg (by simpa using h), if_neg h6]
theorem dlt_cases (s : St) : (opn s = true ∧ s.k ≠ 6 ∧ dlt s = 1) ∨ (opn s = false ∧ s.k = 6 ∧ dlt s = -1) ∨ (opn s = false ∧ s.k ≠ 6 ∧ dlt s = 0) := by
  by_cases ho : opn s = true
  · refine .inl ⟨ho, ?_, dlt_opn ho⟩
    intro e; unfold opn at ho; rw [e] at ho; simp at ho
  · have ho' : opn s = false := by simpa using ho
    by_cases h6 : s.k = 6
    · exact .inr (.inl ⟨ho', h6, dlt_end h6⟩)
    · exact .inr (.inr ⟨ho', h6, dlt_flat ho' h6⟩)
/-- The block is valid up to the statement 'n'. -/
def OkTo (L : List St) (n : Nat) : Prop := ∀ j s, j < n → L[j]? = some s → stOk s = true ∧ 0 ≤ hAt L (j + 1) ∧ hAt L (j + 1) ≤ 3
/-- A valid block. -/
def IsBlk (L : List St) : Prop := OkTo L L.length ∧ hAt L L.length = 0 ∧ L.length ≤ 24
theorem okTo_zero (L : List St) : OkTo L 0 := fun j s h => by omega
theorem okTo_succ {L : List St} {n : Nat} {s : St} (h : OkTo L n) (hs : L[n]? = some s) (h1 : stOk s = true) (h2 : 0 ≤ hAt L (n + 1)) (h3 : hAt L (n + 1) ≤ 3) : OkTo L (n + 1) := fun j t hj ht => by
  by_cases e : j = n
  · subst e; rw [hs] at ht; cases ht; exact ⟨h1, h2, h3⟩
  · exact h j t (by omega) ht
theorem not_blk_at {L : List St} {n : Nat} {s : St} (hs : L[n]? = some s) (h : stOk s = false ∨ hAt L (n + 1) < 0 ∨ 3 < hAt L (n + 1)) : ¬ IsBlk L := fun hb => by
  obtain ⟨h1, h2, h3⟩ := hb.1 n s (List.getElem?_eq_some_iff.1 hs).1 hs
  rcases h with h | h | h
  · rw [h] at h1; cases h1
  · omega
  · omega
theorem blk_bounds {L : List St} (h : IsBlk L) (i : Nat) : 0 ≤ hAt L i ∧ hAt L i ≤ 3 := by
  rcases Nat.eq_zero_or_pos i with rfl | hi
  · rw [hAt_zero]; omega
  · obtain ⟨j, rfl⟩ : ∃ j, i = j + 1 := ⟨i - 1, by omega⟩
    by_cases hj : j < L.length
    · exact (h.1 j L[j] hj (by simp [hj])).2
    · rw [hAt_end L (by omega), h.2.1]; omega
theorem blk_stOk {L : List St} (h : IsBlk L) {i : Nat} {s : St} (hs : L[i]? = some s) : stOk s = true := (h.1 i s (List.getElem?_eq_some_iff.1 hs).1 hs).1

/-- The end 'e' of the statement 'i': the height comes back there for the first time. -/
def IsEnd (L : List St) (i e : Nat) : Prop := i < e ∧ e < L.length ∧ hAt L (e + 1) = hAt L i ∧ ∀ j, i < j → j ≤ e → hAt L i < hAt L j
theorem IsEnd.unique {L : List St} {i e f : Nat} (h : IsEnd L i e) (h' : IsEnd L i f) : e = f := by
  rcases Nat.lt_trichotomy e f with hlt | rfl | hlt
  · have := h'.2.2.2 (e + 1) (by have := h.1; omega) (by omega); rw [h.2.2.1] at this; omega
  · rfl
  · have := h.2.2.2 (f + 1) (by have := h'.1; omega) (by omega); rw [h'.2.2.1] at this; omega
theorem at_lt {L : List St} {i : Nat} (h : i < L.length) : ∃ s, L[i]? = some s := ⟨L[i], by simp [h]⟩
theorem IsEnd.kind {L : List St} {i e : Nat} (h : IsEnd L i e) : ∃ s, L[e]? = some s ∧ s.k = 6 := by
  obtain ⟨s, he⟩ := at_lt h.2.1
  refine ⟨s, he, ?_⟩
  have h1 := hAt_succ he
  have h2 := h.2.2.2 e h.1 (Nat.le_refl _)
  have h3 := h.2.2.1
  rcases dlt_cases s with ⟨_, _, hd⟩ | ⟨_, h6, _⟩ | ⟨_, _, hd⟩
  · omega
  · exact h6
  · omega
theorem IsEnd.depth {L : List St} {i e : Nat} (h : IsEnd L i e) : hAt L e = hAt L i + 1 := by
  obtain ⟨s, hs, h6⟩ := h.kind
  have h1 := hAt_succ hs
  rw [dlt_end h6, h.2.2.1] at h1
  omega
/-- From a statement that opens on, the height comes back: there is an end, if there is a place where it is as low. -/
theorem end_search {L : List St} {i : Nat} {s : St} (hs : L[i]? = some s) (ho : opn s = true) : ∀ n, i < n → n ≤ L.length → (∀ j, i < j → j ≤ n → hAt L i < hAt L j) ∨ ∃ e, e < n ∧ IsEnd L i e := by
  intro n
  induction n with
  | zero => intro h; omega
  | succ n ih =>
    intro hi hn
    by_cases hin : i < n
    · rcases ih hin (by omega) with h | ⟨e, he, hE⟩
      · have hsn : L[n]? = some L[n] := by simp [show n < L.length by omega]
        have h1 := hAt_succ hsn
        have h2 := h n hin (Nat.le_refl _)
        rcases dlt_cases L[n] with ⟨_, _, hd⟩ | ⟨_, _, hd⟩ | ⟨_, _, hd⟩
        · left; intro j hj hjn
          by_cases e : j = n + 1
          · subst e; omega
          · exact h j hj (by omega)
        · by_cases heq : hAt L (n + 1) = hAt L i
          · exact .inr ⟨n, by omega, hin, by omega, heq, h⟩
          · left; intro j hj hjn
            by_cases e : j = n + 1
            · subst e; omega
            · exact h j hj (by omega)
        · left; intro j hj hjn
          by_cases e : j = n + 1
          · subst e; omega
          · exact h j hj (by omega)
      · exact .inr ⟨e, by omega, hE⟩
    · obtain rfl : i = n := by omega
      left; intro j hj hjn
      obtain rfl : j = i + 1 := by omega
      rw [hAt_succ hs, dlt_opn ho]; omega
theorem end_exists {L : List St} (hb : IsBlk L) {i : Nat} {s : St} (hs : L[i]? = some s) (ho : opn s = true) : ∃ e, IsEnd L i e := by
  have hi := (List.getElem?_eq_some_iff.1 hs).1
  rcases end_search hs ho L.length hi (Nat.le_refl _) with h | ⟨e, _, he⟩
  · have h1 := h L.length hi (Nat.le_refl _)
    have h2 := (blk_bounds hb i).1
    rw [hb.2.1] at h1; omega
  · exact ⟨e, he⟩
theorem IsEnd.opens {L : List St} {i e : Nat} (h : IsEnd L i e) : ∃ s, L[i]? = some s ∧ opn s = true := by
  obtain ⟨s, hi⟩ := at_lt (show i < L.length by have := h.1; have := h.2.1; omega)
  refine ⟨s, hi, ?_⟩
  have h1 := hAt_succ hi
  have h2 := h.2.2.2 (i + 1) (by omega) h.1
  rcases dlt_cases s with ⟨ho, _⟩ | ⟨_, _, hd⟩ | ⟨_, _, hd⟩
  · exact ho
  · omega
  · omega

end Go.Proofs.YtmgeecdgebemdaaGreatDoor.blk

/- Blocks as heights, on: how many statements are open at a place; how many statements run. Plain mathematics. -/
namespace Go.Proofs.YtmgeecdgebemdaaGreatDoor.blk
open Go Go.Proofs.YtmgeecdgebemdaaGreatDoor.stm
/-- A stretch at one height: it ends where it began, and never goes below. -/
def Flat (L : List St) (a b : Nat) : Prop := a ≤ b ∧ b ≤ L.length ∧ hAt L b = hAt L a ∧ ∀ t, a ≤ t → t ≤ b → hAt L a ≤ hAt L t
theorem flat_all {L : List St} (h : IsBlk L) : Flat L 0 L.length := ⟨Nat.zero_le _, Nat.le_refl _, by rw [h.2.1, hAt_zero], fun t _ _ => by rw [hAt_zero]; exact (blk_bounds h t).1⟩
theorem flat_body {L : List St} {i e : Nat} (h : IsEnd L i e) : Flat L (i + 1) e := by
  obtain ⟨s, hs, ho⟩ := h.opens
  have h1 := hAt_succ hs
  rw [dlt_opn ho] at h1
  have h2 := h.depth
  exact ⟨h.1, by have := h.2.1; omega, by omega, fun t ht1 ht2 => by have := h.2.2.2 t (by omega) ht2; omega⟩
/-- Within a stretch, at its own height, no end stands. -/
theorem flat_not_end {L : List St} {a b i : Nat} {s : St} (h : Flat L a b) (hi : i < b) (ha : a ≤ i) (he : hAt L i = hAt L a) (hs : L[i]? = some s) : s.k ≠ 6 := fun h6 => by
  have h1 := hAt_succ hs
  rw [dlt_end h6] at h1
  have := h.2.2.2 (i + 1) (by omega) (by omega)
  omega
/-- Within a stretch, a statement that opens at its height has its end within it. -/
theorem flat_end {L : List St} {a b i e : Nat} (h : Flat L a b) (hi : i < b) (he : hAt L i = hAt L a) (hE : IsEnd L i e) : e < b := by
  rcases Nat.lt_or_ge e b with hlt | hge
  · exact hlt
  · have := hE.2.2.2 b hi hge
    rw [h.2.2.1] at this; omega

/-- So many statements run from 'a' up to 'b', if every condition holds. -/
inductive Runs (L : List St) : Nat → Nat → Int → Prop
  | nil (a : Nat) : Runs L a a 0
  | one (a b : Nat) (x : Int) (s : St) (hs : L[a]? = some s) (ho : opn s = false) (h6 : s.k ≠ 6) (hr : Runs L (a + 1) b x) : Runs L a b (1 + x)
  | nest (a e b : Nat) (x y : Int) (s : St) (hs : L[a]? = some s) (he : IsEnd L a e) (hb : Runs L (a + 1) e x) (hr : Runs L (e + 1) b y) : Runs L a b (max 1 s.n * x + y)
theorem Runs.le {L : List St} {a b : Nat} {x : Int} (h : Runs L a b x) : a ≤ b := by
  induction h with
  | nil => exact Nat.le_refl _
  | one => omega
  | nest a e b x y s hs he hb hr _ ih => have := he.1; omega
theorem Runs.unique {L : List St} {a b : Nat} {x : Int} (h : Runs L a b x) : ∀ {y : Int}, Runs L a b y → x = y := by
  induction h with
  | nil a =>
    intro y h'
    cases h' with
    | nil => rfl
    | one _ _ z s hs ho _ hr => have := hr.le; omega
    | nest _ e _ z u s hs he hb hr => have := hr.le; have := he.1; omega
  | one a b x s hs ho h6 hr ih =>
    intro y h'
    cases h' with
    | nil => have := hr.le; omega
    | one _ _ z s' hs' ho' _ hr' => rw [ih hr']
    | nest _ e _ z u s' hs' he' hb' hr' =>
      obtain ⟨s2, hs2, ho2⟩ := he'.opens
      rw [hs] at hs2; cases hs2; rw [ho] at ho2; cases ho2
  | nest a e b x y s hs he hb hr ih1 ih2 =>
    intro z h'
    cases h' with
    | nil => have := hr.le; have := he.1; omega
    | one _ _ u s' hs' ho' _ hr' =>
      obtain ⟨s2, hs2, ho2⟩ := he.opens
      rw [hs'] at hs2; cases hs2; rw [ho'] at ho2; cases ho2
    | nest _ e' _ u v s' hs' he' hb' hr' =>
      obtain rfl := he.unique he'
      rw [hs] at hs'; cases hs'
      rw [ih1 hb', ih2 hr']
theorem Runs.app {L : List St} {a b c : Nat} {x y : Int} (h : Runs L a b x) (h' : Runs L b c y) : Runs L a c (x + y) := by
  induction h with
  | nil => rw [Int.zero_add]; exact h'
  | one a b x s hs ho h6 hr ih => rw [Int.add_assoc]; exact .one a c _ s hs ho h6 (ih h')
  | nest a e b x z s hs he hb hr _ ih => rw [Int.add_assoc]; exact .nest a e c x _ s hs he hb (ih h')
/-- A valid statement's number is at most 5. -/
theorem n_le {s : St} (h : stOk s = true) : s.n ≤ 5 := by
  unfold stOk at h
  split at h
  · simp at h; omega
  split at h
  · simp at h; omega
  split at h
  · simp at h; omega
  split at h
  · simp at h; omega
  split at h
  · simp at h; omega
  split at h
  · simp at h; omega
  · cases h
def p5 (h : Int) : Int := if h ≤ 0 then 125 else if h = 1 then 25 else if h = 2 then 5 else 1
theorem Runs.bound {L : List St} (hb : IsBlk L) {a b : Nat} {x : Int} (h : Runs L a b x) : ∀ H : Int, hAt L a = H → 0 ≤ x ∧ x ≤ (b - a : Int) * p5 H := by
  induction h with
  | nil a => intro H _; simp
  | one a b x s hs ho h6 hr ih =>
    intro H hH
    have h1 := hAt_succ hs
    rw [dlt_flat ho h6] at h1
    have h2 := ih H (by omega)
    have : (1 : Int) ≤ p5 H := by unfold p5; split <;> (try split) <;> (try split) <;> omega
    refine ⟨by omega, ?_⟩
    have e : ((b : Int) - a) * p5 H = ((b : Int) - ((a + 1 : Nat) : Int)) * p5 H + p5 H := by
      rw [show (b : Int) - a = ((b : Int) - ((a + 1 : Nat) : Int)) + 1 by omega, Int.add_mul, Int.one_mul]
    rw [e]; omega
  | nest a e b x y s hs he hbb hr ih1 ih2 =>
    intro H hH
    obtain ⟨s2, hs2, ho2⟩ := he.opens
    have h1 := hAt_succ hs2
    rw [dlt_opn ho2] at h1
    have h2 := (blk_bounds hb (a + 1)).2
    have h3 := (blk_bounds hb a).1
    have hx := ih1 (H + 1) (by omega)
    have hy := ih2 H (by rw [he.2.2.1, hH])
    have hn := n_le (blk_stOk hb hs)
    have hae := he.1
    have hle := hr.le
    obtain ⟨m, hm⟩ : ∃ m, max 1 s.n = m := ⟨_, rfl⟩
    have hm1 : 1 ≤ m ∧ m ≤ 5 := by omega
    rw [hm]
    have hmx : 0 ≤ m * x := Int.mul_nonneg (by omega) hx.1
    have hmx5 : m * x ≤ 5 * x := Int.mul_le_mul_of_nonneg_right hm1.2 hx.1
    rcases (show H = 0 ∨ H = 1 ∨ H = 2 by omega) with rfl | rfl | rfl
    · simp only [p5] at hx hy ⊢; simp at hx hy ⊢; omega
    · simp only [p5] at hx hy ⊢; simp at hx hy ⊢; omega
    · simp only [p5] at hx hy ⊢; simp at hx hy ⊢; omega
theorem runs_small {L : List St} (hb : IsBlk L) {a b : Nat} {x : Int} (h : Runs L a b x) (hl : b ≤ L.length) : 0 ≤ x ∧ x ≤ 3000 := by
  have h1 := h.bound hb (hAt L a) rfl
  have h2 : p5 (hAt L a) ≤ 125 ∧ 0 ≤ p5 (hAt L a) := by unfold p5; split <;> (try split) <;> (try split) <;> omega
  have h3 := h.le
  have h4 := hb.2.2
  have h5 : ((b : Int) - a) * p5 (hAt L a) ≤ ((b : Int) - a) * 125 := Int.mul_le_mul_of_nonneg_left h2.1 (by omega)
  omega
theorem blk_dec (L : List St) : ∃ r : Bool, r = true ↔ IsBlk L := by
  rcases Classical.em (IsBlk L) with h | h
  · exact ⟨true, fun _ => h, fun _ => rfl⟩
  · exact ⟨false, fun e => (by cases e), fun e => absurd e h⟩
/-- A stretch at one height has a count. -/
theorem runs_ex {L : List St} (hb : IsBlk L) : ∀ (m a b : Nat), b - a ≤ m → Flat L a b → ∃ x, Runs L a b x := by
  intro m
  induction m with
  | zero => intro a b hm hF; obtain rfl : a = b := by have := hF.1; omega
            exact ⟨0, .nil _⟩
  | succ m ih =>
    intro a b hm hF
    by_cases hab : a = b
    · subst hab; exact ⟨0, .nil _⟩
    · have hlt : a < b := by have := hF.1; omega
      obtain ⟨s, hs⟩ := at_lt (show a < L.length by have := hF.2.1; omega)
      have h6 := flat_not_end hF hlt (Nat.le_refl _) rfl hs
      have h1 := hAt_succ hs
      cases ho : opn s
      · rw [dlt_flat ho h6] at h1
        obtain ⟨x, hx⟩ := ih (a + 1) b (by omega) ⟨by omega, hF.2.1, by have := hF.2.2.1; omega, fun t h2 h3 => by have := hF.2.2.2 t (by omega) h3; omega⟩
        exact ⟨_, .one a b x s hs ho h6 hx⟩
      · obtain ⟨e, he⟩ := end_exists hb hs ho
        have heb := flat_end hF hlt rfl he
        have hae := he.1
        obtain ⟨x, hx⟩ := ih (a + 1) e (by omega) (flat_body he)
        obtain ⟨y, hy⟩ := ih (e + 1) b (by omega) ⟨by omega, hF.2.1, by rw [he.2.2.1]; exact hF.2.2.1, fun t h2 h3 => by rw [he.2.2.1]; exact hF.2.2.2 t (by omega) h3⟩
        exact ⟨_, .nest a e b x y s hs he hx hy⟩
end Go.Proofs.YtmgeecdgebemdaaGreatDoor.blk

/- Tasks and programs: plain data; a slice that reads as a list of tasks; the law's own copy, size and comparison of such a slice. -/
namespace Go.Proofs.YtmgeecdgebemdaaGreatDoor.prg
open Go Go.ChangeShapes Go.WideShapes Go.ChangeAt Go.RowKit Go.Proofs.YtmgeecdgebemdaaGreatDoor.row Go.Proofs.YtmgeecdgebemdaaGreatDoor.val Go.Proofs.YtmgeecdgebemdaaGreatDoor.expr Go.Proofs.YtmgeecdgebemdaaGreatDoor.stm Go.Proofs.YtmgeecdgebemdaaGreatDoor.blk
/-- A task: its statements and the three numbers of its expression. -/
structure Tk where
  b : List Go.Proofs.YtmgeecdgebemdaaGreatDoor.stm.St
  (o x y : Int)
def tkC (a : Option Addr) (n c : Nat) (t : Tk) : List Value := [.slice a n c, .int .i64 t.o, .int .i64 t.x, .int .i64 t.y]
abbrev tkV (a : Option Addr) (n c : Nat) (t : Tk) : Value := .agg #[.slice a n c, .int .i64 t.o, .int .i64 t.x, .int .i64 t.y]
/-- A valid program. -/
def IsPrg (P : List Tk) : Prop := 1 ≤ P.length ∧ P.length ≤ 6 ∧ ∀ t ∈ P, IsBlk t.b ∧ exprOk t.o t.x t.y = true
/-- The task that lies at this place. -/
def TkAt (w : World) (g o : Nat) (t : Tk) : Prop := ∃ (ab : Option Addr) (nb cb : Nat), w.rangeAt g o (tkC ab nb cb t) ∧ nb ≤ cb ∧ StRow w ab nb t.b
theorem TkAt.below {w w' : World} {g o : Nat} {t : Tk} (h : TkAt w g o t) (hg : g < w.heap.size) (hb : Below w.heap.size w w') : TkAt w' g o t := by
  obtain ⟨ab, nb, cb, h1, h2, h3⟩ := h
  exact ⟨ab, nb, cb, fun j v hj => (hb.cell (p := ⟨g, o + j, none⟩) hg).trans (h1 j v hj), h2, h3.below hb⟩
/-- The slice at 'a' of 'n' tasks reads as the list 'P'. -/
def TkRow (w : World) (a : Option Addr) (n : Nat) (P : List Tk) : Prop :=
  P.length = n ∧ ∀ k, k < n → ∃ (g off : Nat) (t : Tk), a = some ⟨g, off, none⟩ ∧ g < w.heap.size ∧ P[k]? = some t ∧ TkAt w g (off + k * 4) t
theorem TkRow.below {w w' : World} {a : Option Addr} {n : Nat} {P : List Tk} (h : TkRow w a n P) (hb : Below w.heap.size w w') : TkRow w' a n P :=
  ⟨h.1, fun k hk => by
    obtain ⟨g, off, t, rfl, hlt, ht, hT⟩ := h.2 k hk
    exact ⟨g, off, t, rfl, Nat.lt_of_lt_of_le hlt hb.size, ht, hT.below hlt hb⟩⟩
theorem TkRow.nil (w : World) (a : Option Addr) : TkRow w a 0 [] := ⟨rfl, fun k hk => by omega⟩
theorem range4 {w : World} {g o : Nat} {a : Option Addr} {n c : Nat} {t : Tk} (h : w.rangeAt g o (tkC a n c t)) :
    w.cell? ⟨g, o, none⟩ = some (.slice a n c) ∧ w.cell? ⟨g, o + 1, none⟩ = some (.int .i64 t.o) ∧ w.cell? ⟨g, o + 2, none⟩ = some (.int .i64 t.x) ∧ w.cell? ⟨g, o + 3, none⟩ = some (.int .i64 t.y) :=
  ⟨h 0 _ rfl, h 1 _ rfl, h 2 _ rfl, h 3 _ rfl⟩
/-- No list is longer than this. -/
def Sizes (P : List Tk) : Prop := P.length ≤ 1048576 ∧ ∀ t ∈ P, t.b.length ≤ 1048576
abbrev zeroTk : Array Value := #[.slice none 0 0, .int .i64 0, .int .i64 0, .int .i64 0]

/-- A row of statements in one block stands as long as that block is not written. -/
theorem StRow.grown_box {w w' : World} {g o n : Nat} {L : List Go.Proofs.YtmgeecdgebemdaaGreatDoor.stm.St} {r : Option Nat} (h : StRow w (some ⟨g, o, none⟩) n L) (hg : w.grownBy w' r) (hne : some g ≠ r) : StRow w' (some ⟨g, o, none⟩) n L :=
  ⟨h.1, fun k hk => by
    obtain ⟨b, off, s, e, hlt, hs, hr⟩ := h.2 k hk
    simp only [Option.some.injEq, Addr.mk.injEq, and_true] at e
    obtain ⟨rfl, rfl⟩ := e
    exact ⟨g, o, s, rfl, Nat.lt_of_lt_of_le hlt hg.size, hs, fun j v hv => hg.cell (hr j v hv) hne⟩⟩
/-- A copy of the task: its statements in new memory. -/
def MadeTk (w : World) (t : Tk) (e : Ending) (w' : World) : Prop :=
  ∃ (g n : Nat), e = .returned (tkV (some ⟨g, 0, none⟩) n n t) ∧ w.heap.size ≤ g ∧ Hid (StRow w' (some ⟨g, 0, none⟩) n t.b) ∧ Below w.heap.size w w'
/-- .. and the statements' block is known whole. -/
def MadeTkX (w : World) (t : Tk) (e : Ending) (w' : World) : Prop :=
  ∃ (g n : Nat), e = .returned (tkV (some ⟨g, 0, none⟩) n n t) ∧ w.heap.size ≤ g ∧ Hid (t.b.length = n ∧ Box g (stsC t.b).toArray 112 w') ∧ Below w.heap.size w w'
set_option maxHeartbeats 2000000 in
set_option maxRecDepth 100000 in
theorem totask_box (t : Tk) (ab : Option Addr) (nb cb : Nat) (w : World) (hn : (nb : Int) ≤ 1048576) (h : StRow w ab nb t.b) :
    Calls Tryz.prog 127 #[tkV ab nb cb t] w (MadeTkX w t) := by
  obtain ⟨B, o, x, y⟩ := t
  obtain ⟨W, hW⟩ : ∃ W, W = ((w.alloc (.cells #[.slice ab nb cb, .int .i64 o, .int .i64 x, .int .i64 y] 152)).alloc (.cells zeroTk 96)).alloc (.cells zeroTk 96) := ⟨_, rfl⟩
  have hs : W.heap.size = w.heap.size + 3 := by rw [hW]; simp
  have e1 : ∀ x : Obj, (w.alloc x).heap.size = w.heap.size + 1 := fun x => by simp
  have e2 : ∀ x y : Obj, ((w.alloc x).alloc y).heap.size = w.heap.size + 2 := fun x y => by simp
  have b0 : Box w.heap.size #[.slice ab nb cb, .int .i64 o, .int .i64 x, .int .i64 y] 152 W := by
    rw [hW]; exact ((Box.new w _ _).alloc _).alloc _
  have b1 : Box (w.heap.size + 1) zeroTk 96 W := by
    have h9 := (Box.new (w.alloc (.cells #[.slice ab nb cb, .int .i64 o, .int .i64 x, .int .i64 y] 152)) zeroTk 96).alloc (.cells zeroTk 96)
    rw [e1] at h9; rw [hW]; exact h9
  have b2 : Box (w.heap.size + 2) zeroTk 96 W := by
    have h9 := Box.new ((w.alloc (.cells #[.slice ab nb cb, .int .i64 o, .int .i64 x, .int .i64 y] 152)).alloc (.cells zeroTk 96)) zeroTk 96
    rw [e2] at h9; rw [hW]; exact h9
  have hb : Below w.heap.size w W := by
    rw [hW]; exact (((Below.refl _ _).alloc (Nat.le_refl _) _).alloc (by simp) _).alloc (by simp; omega) _
  have H0 := Lib.hid (And.intro b0 (And.intro b1 (And.intro b2 (And.intro hb (h.below hb)))))
  have HS := Lib.hid hs
  have HW := Lib.hid hW
  clear b0 b1 b2 hb hs hW e1 e2 h
  go_enter Tryz.func127, Tryz.ntmps127
  go_wp2_with (go_at_call 165; rw [← HW.out]; refine (toStmts_any W ab nb cb B hn H0.out.2.2.2.2).mono ?_; rintro e w1 ⟨rfl, hx1, hb1⟩; refine Hid.out ?_)
  have b0 := H0.out.1.below hb1
  have b2 := H0.out.2.2.1.below hb1
  have c : w1.cell? ⟨w.heap.size + 2, 0, none⟩ = some (.slice none 0 0) := b2.cell 0
  have f : w1.frozen? ⟨w.heap.size + 2, 0, none⟩ = false := b2.frozen 0
  have r1 : w1.cell? ⟨w.heap.size, 1, none⟩ = some (.int .i64 o) := b0.cell 1
  have r2 : w1.cell? ⟨w.heap.size, 2, none⟩ = some (.int .i64 x) := b0.cell 2
  have r3 : w1.cell? ⟨w.heap.size, 3, none⟩ = some (.int .i64 y) := b0.cell 3
  have hbw := H0.out.2.2.2.1.trans (hb1.mono (by have := HS.out; omega))
  have H1 := Lib.hid (And.intro hx1 (And.intro b2 (And.intro (H0.out.2.1.below hb1) hbw)))
  have HS1 := Lib.hid hb1.size
  clear b0 b2 hx1 hb1 hbw
  refine Lib.hid ?_
  go_wp2_with (go_at_call 166; refine (toExpr_any o x y _).mono ?_; rintro e w2 ⟨rfl, hb2⟩; refine Hid.out ?_)
  have hbs := hb2.size
  have hB2 : Box (w.heap.size + 2) #[.slice (some ⟨W.heap.size, 0, none⟩) nb nb, .int .i64 0, .int .i64 0, .int .i64 0] 96 w2 := (H1.out.2.1.set 0 _).below hb2
  have hB1 : Box (w.heap.size + 1) zeroTk 96 w2 := (H1.out.2.2.1.set_other (by simp) _).below hb2
  have hBW : Below w.heap.size w w2 := (H1.out.2.2.2.setCell (by show w.heap.size ≤ w.heap.size + 2; omega) _).trans (hb2.mono (by have := HS1.out; have := HS.out; simp; omega))
  have hST : Box W.heap.size (stsC B).toArray 112 w2 := (H1.out.1.set_other (by have := HS.out; simp; omega) _).below hb2
  have H2 := Lib.hid (And.intro hB2 (And.intro hB1 (And.intro hBW hST)))
  clear hB2 hB1 hBW hST hb2 c f r1 r2 r3 hbs
  refine Lib.hid ?_
  go_wp2_with ((refine wpList_store_part rfl 94 _ _ rfl (w.heap.size + 2) 1 _ _ H2.out.1 #[.int .i64 o, .int .i64 x, .int .i64 y] rfl rfl (by simp) (by kernel_rfl) (by simp [Value.oneCell']) ?_); intro w3 hx3 hg3; refine Hid.out ?_)
  have hr3 := H2.out.2.1.grown hg3 (by simp)
  have hs3 := H2.out.2.2.2.grown hg3 (by have := HS.out; simp; omega)
  have H3 := Lib.hid (And.intro (show Box (w.heap.size + 2) #[.slice (some ⟨W.heap.size, 0, none⟩) nb nb, .int .i64 o, .int .i64 x, .int .i64 y] 96 w3 from hx3) (And.intro hr3 (And.intro (H2.out.2.2.1.grown hg3 H2.out.2.2.1.size (fun j hj => by cases hj; omega)) hs3)))
  clear hx3 hg3 hr3 hs3
  refine Lib.hid ?_
  go_wp2_with (first
    | (refine wpList_load_row rfl 96 _ rfl (w.heap.size + 2) rfl _ _ _ _ H3.out.1 Tryz.underlying96 rfl (by kernel_rfl) ?_)
    | ((refine wpList_store_box rfl 96 _ _ rfl (w.heap.size + 1) _ _ H3.out.2.1 #[.slice (some ⟨W.heap.size, 0, none⟩) nb nb, .int .i64 o, .int .i64 x, .int .i64 y] rfl rfl rfl (by kernel_rfl) (by simp [Value.oneCell']) ?_); intro w4 hx4 hg4; refine Hid.out ?_))
  have hs4 := H3.out.2.2.2.grown hg4 (by have := HS.out; simp; omega)
  have H4 := Lib.hid (And.intro hx4 (And.intro (H3.out.2.2.1.grown hg4 H3.out.2.2.1.size (fun j hj => by cases hj; omega)) hs4))
  clear hx4 hg4 hs4
  refine Lib.hid ?_
  go_wp2
  exact bodyPost_ret (v := tkV (some ⟨W.heap.size, 0, none⟩) nb nb ⟨B, o, x, y⟩) (results_cell_row rfl _ _ (w.heap.size + 1) _ _ _ _ rfl H4.out.1 Tryz.underlying96 rfl (by kernel_rfl)) rfl ⟨_, nb, rfl, by have := HS.out; omega, ⟨H0.out.2.2.2.2.1, H4.out.2.2⟩, H4.out.2.1⟩
theorem totask_any (t : Tk) (ab : Option Addr) (nb cb : Nat) (w : World) (hn : (nb : Int) ≤ 1048576) (h : StRow w ab nb t.b) :
    Calls Tryz.prog 127 #[tkV ab nb cb t] w (MadeTk w t) := by
  refine (totask_box t ab nb cb w hn h).mono ?_
  rintro e w' ⟨g, n, rfl, hg, hx, hb⟩
  exact ⟨g, n, rfl, hg, StRow.of_box' hx.out.2 hx.out.1, hb⟩
theorem setAll_size : ∀ (vs : List Value) (o : Nat) (cs : Array Value), (setAll cs o vs).size = cs.size
  | [], _, _ => rfl
  | v :: r, o, cs => by show (setAll (cs.setIfInBounds o v) (o + 1) r).size = _; rw [setAll_size r]; simp
theorem setAll_out : ∀ (vs : List Value) (o : Nat) (cs : Array Value) (i : Nat), i < o ∨ o + vs.length ≤ i → (setAll cs o vs)[i]? = cs[i]?
  | [], _, _, _, _ => rfl
  | v :: r, o, cs, i, h => by
    show (setAll (cs.setIfInBounds o v) (o + 1) r)[i]? = _
    simp only [List.length_cons] at h
    rw [setAll_out r (o + 1) _ i (by omega), Array.getElem?_setIfInBounds, if_neg (by omega)]
theorem setAll_in : ∀ (vs : List Value) (o : Nat) (cs : Array Value) (j : Nat), j < vs.length → o + j < cs.size → (setAll cs o vs)[o + j]? = vs[j]?
  | [], _, _, _, h, _ => by simp at h
  | v :: r, o, cs, 0, _, h2 => by
    show (setAll (cs.setIfInBounds o v) (o + 1) r)[o + 0]? = _
    rw [setAll_out r (o + 1) _ _ (by omega), Nat.add_zero, Array.getElem?_setIfInBounds, if_pos rfl, if_pos (by omega)]; rfl
  | v :: r, o, cs, j + 1, h1, h2 => by
    show (setAll (cs.setIfInBounds o v) (o + 1) r)[o + (j + 1)]? = _
    have := setAll_in r (o + 1) (cs.setIfInBounds o v) j (by simpa using h1) (by simp; omega)
    rw [show o + 1 + j = o + (j + 1) by omega] at this
    rw [this]; simp
/-- The first 'k' tasks lie in these cells, their statements in other blocks than 'G'. -/
def Pref (w : World) (P : List Tk) (G : Nat) (cs : Array Value) (k : Nat) : Prop :=
  ∀ j, j < k → ∃ (t : Tk) (g nb : Nat), P[j]? = some t ∧ (∀ i v, (tkC (some ⟨g, 0, none⟩) nb nb t)[i]? = some v → cs[j * 4 + i]? = some v) ∧ G < g ∧ StRow w (some ⟨g, 0, none⟩) nb t.b
theorem Pref.zero (w : World) (P : List Tk) (G : Nat) (cs : Array Value) : Pref w P G cs 0 := fun j h => by omega
theorem Pref.below {w w' : World} {P : List Tk} {G : Nat} {cs : Array Value} {k : Nat} (h : Pref w P G cs k) (hb : Below w.heap.size w w') : Pref w' P G cs k := fun j hj => by
  obtain ⟨t, g, nb, h1, h2, h3, h4⟩ := h j hj
  exact ⟨t, g, nb, h1, h2, h3, h4.below hb⟩
theorem Pref.grown {w w' : World} {P : List Tk} {G : Nat} {cs : Array Value} {k : Nat} (h : Pref w P G cs k) (hg : w.grownBy w' (some G)) : Pref w' P G cs k := fun j hj => by
  obtain ⟨t, g, nb, h1, h2, h3, h4⟩ := h j hj
  exact ⟨t, g, nb, h1, h2, h3, StRow.grown_box h4 hg (fun e => by have := Option.some.inj e; omega)⟩
theorem Pref.next {w : World} {P : List Tk} {G : Nat} {cs : Array Value} {k g nb : Nat} {t : Tk} (h : Pref w P G cs k) (ht : P[k]? = some t) (hs : k * 4 + 4 ≤ cs.size) (hne : G < g) (hr : StRow w (some ⟨g, 0, none⟩) nb t.b) :
    Pref w P G (setAll cs (k * 4) (tkC (some ⟨g, 0, none⟩) nb nb t)) (k + 1) := fun j hj => by
  by_cases e : j = k
  · subst e
    refine ⟨t, g, nb, ht, fun i v hv => ?_, hne, hr⟩
    have hi : i < 4 := by have := (List.getElem?_eq_some_iff.1 hv).1; simpa [tkC] using this
    rw [setAll_in _ _ _ i (by simpa [tkC] using hi) (by omega)]; exact hv
  · obtain ⟨t', g', nb', h1, h2, h3, h4⟩ := h j (by omega)
    refine ⟨t', g', nb', h1, fun i v hv => ?_, h3, h4⟩
    have hi : i < 4 := by have := (List.getElem?_eq_some_iff.1 hv).1; simpa [tkC] using this
    rw [setAll_out _ _ _ _ (by left; omega)]; exact h2 i v hv
/-- A list of tasks in blocks from 'lo' on. -/
def TkFrom (lo : Nat) (w : World) (a : Option Addr) (n : Nat) (P : List Tk) : Prop :=
  P.length = n ∧ ∀ k, k < n → ∃ (g : Nat) (t : Tk) (gb nb c : Nat), a = some ⟨g, 0, none⟩ ∧ lo ≤ g ∧ g < w.heap.size ∧ P[k]? = some t ∧ w.rangeAt g (k * 4) (tkC (some ⟨gb, 0, none⟩) nb c t) ∧ nb ≤ c ∧ lo ≤ gb ∧ StRow w (some ⟨gb, 0, none⟩) nb t.b
theorem TkFrom.row {lo : Nat} {w : World} {a : Option Addr} {n : Nat} {P : List Tk} (h : TkFrom lo w a n P) : TkRow w a n P :=
  ⟨h.1, fun k hk => by
    obtain ⟨g, t, gb, nb, c, h1, _, h3, h4, h5, h5c, _, h7⟩ := h.2 k hk
    exact ⟨g, 0, t, h1, h3, h4, _, nb, c, by rw [Nat.zero_add]; exact h5, h5c, h7⟩⟩
theorem TkFrom.mono {lo lo' : Nat} {w : World} {a : Option Addr} {n : Nat} {P : List Tk} (h : TkFrom lo w a n P) (hl : lo' ≤ lo) : TkFrom lo' w a n P :=
  ⟨h.1, fun k hk => by
    obtain ⟨g, t, gb, nb, c, h1, h2, h3, h4, h5, h5c, h6, h7⟩ := h.2 k hk
    exact ⟨g, t, gb, nb, c, h1, by omega, h3, h4, h5, h5c, by omega, h7⟩⟩
theorem TkFrom.grown {lo : Nat} {w w' : World} {a : Option Addr} {n G : Nat} {P : List Tk} (h : TkFrom lo w a n P) (hg : w.grownBy w' (some G)) (hG : G < lo) : TkFrom lo w' a n P :=
  ⟨h.1, fun k hk => by
    obtain ⟨g, t, gb, nb, c, h1, h2, h3, h4, h5, h5c, h6, h7⟩ := h.2 k hk
    exact ⟨g, t, gb, nb, c, h1, h2, Nat.lt_of_lt_of_le h3 hg.size, h4, fun j v hv => hg.cell (h5 j v hv) (fun e => by have : g = G := Option.some.inj e; omega), h5c, h6, StRow.grown_box h7 hg (fun e => by have := Option.some.inj e; omega)⟩⟩
theorem TkFrom.below {lo : Nat} {w w' : World} {a : Option Addr} {n : Nat} {P : List Tk} (h : TkFrom lo w a n P) (hb : Below w.heap.size w w') : TkFrom lo w' a n P :=
  ⟨h.1, fun k hk => by
    obtain ⟨g, t, gb, nb, c, h1, h2, h3, h4, h5, h5c, h6, h7⟩ := h.2 k hk
    exact ⟨g, t, gb, nb, c, h1, h2, Nat.lt_of_lt_of_le h3 hb.size, h4, fun j v hv => (hb.cell (p := ⟨g, k * 4 + j, none⟩) h3).trans (h5 j v hv), h5c, h6, h7.below hb⟩⟩
theorem Pref.row {w : World} {P : List Tk} {cs : Array Value} {g n : Nat} {ty : TypeId} (h : Pref w P g cs n) (hl : P.length = n) (hb : Box g cs ty w) : TkFrom g w (some ⟨g, 0, none⟩) n P :=
  ⟨hl, fun k hk => by
    obtain ⟨t, g', nb, h1, h2, h3, h4⟩ := h k hk
    exact ⟨g, t, g', nb, nb, rfl, Nat.le_refl _, hb.lt, h1, fun j v hj => by rw [hb.cell]; exact h2 j v hj, Nat.le_refl _, Nat.le_of_lt h3, h4⟩⟩
theorem own_boxz {w : World} {base g n z : Nat} {t : TypeId} {xs : List Value} (h : w.ownsRow base t z (.slice (some ⟨g, 0, none⟩) n n) n xs) : Box g xs.toArray t w := by
  rcases h.2 with ⟨h0, _⟩ | ⟨g', cap, cur, hv, _, hg, _, _, hs, ht⟩
  · simp at h0
  · simp only [Value.slice.injEq, Option.some.injEq, Addr.mk.injEq, and_true, true_and] at hv
    obtain ⟨rfl, rfl⟩ := hv
    have e : xs = cur.toList := by rw [← ht]; exact List.take_of_length_le (by rw [Array.length_toList, hs]; exact Nat.le_refl _)
    unfold Box
    rw [e, Array.toArray_toList]; exact hg
end Go.Proofs.YtmgeecdgebemdaaGreatDoor.prg
