/- Several texts in one: WtA. -/
import Derived.Test.YtlicadaecfgklaaGHub2
import Derived.Lib.RowBridge

/- Chapter 10, plain mathematics: writes, what applying them makes of a row, the first place where two rows differ, and the places of a list of writes in ascending order, each once. -/
namespace Go.Proofs.Ytlicadaecfgklaa.wrt
open Go.Proofs.Ytlicadaecfgklaa.expr

/-- A write: the place, the value. -/
structure Wt where
  (p v : Int)
deriving DecidableEq

/-- The row behind one write. -/
def put1 (M : List Int) (x : Wt) : List Int := if 0 ≤ x.p ∧ x.p < M.length then M.set x.p.toNat x.v else M
theorem put1_in {M : List Int} {x : Wt} {k : Nat} (hk : x.p = k) (h : k < M.length) : put1 M x = M.set k x.v := by
  unfold put1; rw [if_pos ⟨by omega, by omega⟩, show x.p.toNat = k by omega]
theorem put1_out {M : List Int} {x : Wt} (h : ¬ (0 ≤ x.p ∧ x.p < M.length)) : put1 M x = M := by unfold put1; rw [if_neg h]
theorem put1_len (M : List Int) (x : Wt) : (put1 M x).length = M.length := by unfold put1; split <;> simp
/-- The row behind all these writes. -/
def putAll (M : List Int) (L : List Wt) : List Int := L.foldl put1 M
theorem putAll_len (L : List Wt) : ∀ M, (putAll M L).length = M.length := by
  induction L with
  | nil => intro M; rfl
  | cons x L ih => intro M; show (putAll (put1 M x) L).length = _; rw [ih, put1_len]
theorem putAll_snoc {M : List Int} {L : List Wt} {k : Nat} {x : Wt} (h : L[k]? = some x) : putAll M (L.take (k + 1)) = put1 (putAll M (L.take k)) x := by
  unfold putAll; rw [List.take_add_one, h]; simp
theorem putAll_app (M : List Int) (K L : List Wt) : putAll M (K ++ L) = putAll (putAll M K) L := by unfold putAll; rw [List.foldl_append]
/-- What ApplyWrites answers. -/
def appW (M : List Int) (L : List Wt) (c : Int) : List Int := putAll M (L.take c.toNat)
theorem appW_len (M : List Int) (L : List Wt) (c : Int) : (appW M L c).length = M.length := putAll_len _ _
theorem appW_all (M : List Int) (L : List Wt) {c : Int} (h : (L.length : Int) ≤ c) : appW M L c = putAll M L := by
  unfold appW; rw [List.take_of_length_le (by omega)]
theorem put1_other {M : List Int} {x : Wt} {k : Nat} (h : x.p ≠ k) : (put1 M x)[k]? = M[k]? := by
  unfold put1
  split
  · rw [List.getElem?_set_ne (by omega)]
  · rfl
theorem putAll_other {k : Nat} : ∀ (L : List Wt) (M : List Int), (∀ x ∈ L, x.p ≠ k) → (putAll M L)[k]? = M[k]?
  | [], _, _ => rfl
  | x :: L, M, h => by
    show (putAll (put1 M x) L)[k]? = _
    rw [putAll_other L (put1 M x) (fun y hy => h y (List.mem_cons_of_mem _ hy)), put1_other (h x (List.mem_cons_self ..))]

/-- 'r' is the first place where the rows differ, or -1. -/
def FdIs (A B : List Int) (r : Int) : Prop := (r = -1 ∧ A = B) ∨ ∃ k : Nat, r = k ∧ (∀ j, j < k → A[j]? = B[j]?) ∧ A[k]? ≠ B[k]?
theorem fd_ex (A B : List Int) : ∃ r, FdIs A B r := by
  induction A generalizing B with
  | nil =>
    cases B with
    | nil => exact ⟨-1, .inl ⟨rfl, rfl⟩⟩
    | cons b B => exact ⟨0, .inr ⟨0, rfl, fun j hj => absurd hj (by omega), by simp⟩⟩
  | cons a A ih =>
    cases B with
    | nil => exact ⟨0, .inr ⟨0, rfl, fun j hj => absurd hj (by omega), by simp⟩⟩
    | cons b B =>
      by_cases h : a = b
      · subst h
        obtain ⟨r, hr⟩ := ih B
        rcases hr with ⟨rfl, rfl⟩ | ⟨k, rfl, h1, h2⟩
        · exact ⟨-1, .inl ⟨rfl, rfl⟩⟩
        · refine ⟨((k + 1 : Nat) : Int), .inr ⟨k + 1, rfl, fun j hj => ?_, by simpa using h2⟩⟩
          cases j with
          | zero => rfl
          | succ j => simpa using h1 j (by omega)
      · exact ⟨0, .inr ⟨0, rfl, fun j hj => absurd hj (by omega), by simpa using h⟩⟩
theorem fd_at {A B : List Int} {r : Int} (h : FdIs A B r) {k : Nat} (h1 : ∀ j, j < k → A[j]? = B[j]?) (h2 : A[k]? ≠ B[k]?) : r = k := by
  rcases h with ⟨_, rfl⟩ | ⟨m, rfl, h3, h4⟩
  · exact absurd rfl h2
  · rcases Nat.lt_trichotomy k m with hl | hl | hl
    · exact absurd (h3 k hl) h2
    · rw [hl]
    · exact absurd (h1 m hl) h4
theorem fd_none {A B : List Int} {r : Int} (h : FdIs A B r) (h1 : A = B) : r = -1 := by
  rcases h with ⟨h, _⟩ | ⟨m, _, _, h4⟩
  · exact h
  · subst h1; exact absurd rfl h4
theorem fd_end {A B : List Int} {r : Int} (h : FdIs A B r) {k : Nat} (h1 : ∀ j, j < k → A[j]? = B[j]?) (h2 : A.length ≤ k) (h3 : B.length ≤ k) : r = -1 := by
  refine fd_none h (List.ext_getElem? fun j => ?_)
  by_cases hj : j < k
  · exact h1 j hj
  · rw [List.getElem?_eq_none (by omega), List.getElem?_eq_none (by omega)]
theorem fd_set {A : List Int} {k : Nat} {x y : Int} (hx : A[k]? = some x) (hy : y ≠ x) : FdIs A (A.set k y) k := by
  have hk := (List.getElem?_eq_some_iff.1 hx).1
  refine .inr ⟨k, rfl, fun j hj => by rw [List.getElem?_set_ne (by omega)], ?_⟩
  rw [hx, List.getElem?_set_self hk]; intro e; exact hy (Option.some.inj e).symm

/-- Strictly ascending. -/
abbrev Asc (L : List Int) : Prop := L.Pairwise (· < ·)
theorem asc_ext {K L : List Int} (h1 : Asc K) (h2 : Asc L) (h : ∀ x, x ∈ K ↔ x ∈ L) : K = L := by
  have n1 : K.Nodup := h1.imp (fun h => by omega)
  have n2 : L.Nodup := h2.imp (fun h => by omega)
  have hp : K.Perm L := (List.perm_ext_iff_of_nodup n1 n2).2 h
  exact List.Perm.eq_of_pairwise (le := (· < ·)) (fun a b _ _ h1 h2 => by omega) h1 h2 hp
theorem asc_at {L : List Int} (h : Asc L) {i j : Nat} (hij : i < j) {x y : Int} (hx : L[i]? = some x) (hy : L[j]? = some y) : x < y := by
  obtain ⟨h1, rfl⟩ := List.getElem?_eq_some_iff.1 hx
  obtain ⟨h2, rfl⟩ := List.getElem?_eq_some_iff.1 hy
  exact List.pairwise_iff_getElem.1 h i j h1 h2 hij
theorem compact_asc {L : List Int} (h : L.Pairwise (· ≤ ·)) : Asc (Lib.compact L) ∧ ∀ x, x ∈ Lib.compact L ↔ x ∈ L := by
  have hg : ∀ j, j < L.length → L.toArray[j]! = L.getD j 0 := fun j hj => by
    simp [List.getD_eq_getElem?_getD, hj]
  have key : ∀ m, m ≤ L.length → Asc (Lib.compactUpTo L.toArray m) ∧ (∀ x, x ∈ Lib.compactUpTo L.toArray m ↔ x ∈ L.take m) := by
    intro m
    induction m with
    | zero => intro _; simp [Lib.compactUpTo]
    | succ m ih =>
      intro hm
      obtain ⟨i1, i2⟩ := ih (by omega)
      have hmL : L[m]? = some (L.getD m 0) := by simp [List.getD_eq_getElem?_getD, show m < L.length by omega]
      have htk : L.take (m + 1) = L.take m ++ [L.getD m 0] := by rw [List.take_add_one, hmL]; rfl
      have hle : ∀ x ∈ L.take m, x ≤ L.getD m 0 := by
        intro x hx
        obtain ⟨i, hi, rfl⟩ := List.mem_iff_getElem.1 hx
        have hi' : i < m := by simp at hi; omega
        rw [List.getElem_take]
        have := List.pairwise_iff_getElem.1 h i m (by omega) (by omega) hi'
        simpa [List.getD_eq_getElem?_getD, show m < L.length by omega] using this
      rw [Lib.compactUpTo_succ, hg m (by omega)]
      by_cases hk : Lib.keeps L.toArray m = true
      · rw [if_pos hk]
        have hnew : ∀ x ∈ L.take m, x < L.getD m 0 := by
          intro x hx
          have hx1 := hle x hx
          rcases Int.lt_or_eq_of_le hx1 with hlt | heq
          · exact hlt
          · exfalso
            subst heq
            have hm0 : m ≠ 0 := by intro e; subst e; simp at hx
            have hne : L.toArray[m]! ≠ L.toArray[m - 1]! := by
              simp only [Lib.keeps, decide_eq_true_eq] at hk
              rcases hk with hk | hk
              · exact absurd hk hm0
              · exact hk
            rw [hg m (by omega), hg (m - 1) (by omega)] at hne
            obtain ⟨i, hi, hxi⟩ := List.mem_iff_getElem.1 hx
            have hi' : i < m := by simp at hi; omega
            rw [List.getElem_take] at hxi
            have h1 : L[i] ≤ L[m - 1] := by
              rcases Nat.lt_or_ge i (m - 1) with hl | hl
              · exact List.pairwise_iff_getElem.1 h i (m - 1) (by omega) (by omega) hl
              · have : i = m - 1 := by omega
                subst this; exact Int.le_refl _
            have h2 : L[m - 1] ≤ L[m] := List.pairwise_iff_getElem.1 h (m - 1) m (by omega) (by omega) (by omega)
            have e1 : L.getD m 0 = L[m] := by simp [List.getD_eq_getElem?_getD, show m < L.length by omega]
            have e2 : L.getD (m - 1) 0 = L[m - 1] := by simp [List.getD_eq_getElem?_getD, show m - 1 < L.length by omega]
            rw [e1, e2] at hne
            rw [e1] at hxi
            omega
        refine ⟨List.pairwise_append.2 ⟨i1, by simp, fun a ha b hb => ?_⟩, fun x => ?_⟩
        · rw [List.mem_singleton] at hb; subst hb
          exact hnew a ((i2 a).1 ha)
        · rw [htk, List.mem_append, List.mem_append, i2 x]
      · rw [if_neg hk, List.append_nil]
        refine ⟨i1, fun x => ?_⟩
        rw [htk, List.mem_append, i2 x]
        constructor
        · exact .inl
        · rintro (hx | hx)
          · exact hx
          · rw [List.mem_singleton] at hx; subst hx
            have hk' : ¬ (m = 0 ∨ L.toArray[m]! ≠ L.toArray[m - 1]!) := by simpa [Lib.keeps] using hk
            have hm0 : m ≠ 0 := fun e => hk' (.inl e)
            have he : L.toArray[m]! = L.toArray[m - 1]! := by
              by_cases he : L.toArray[m]! = L.toArray[m - 1]!
              · exact he
              · exact absurd (.inr he) hk'
            rw [hg m (by omega), hg (m - 1) (by omega)] at he
            rw [he]
            refine List.mem_iff_getElem.2 ⟨m - 1, by simp; omega, ?_⟩
            rw [List.getElem_take]
            simp [List.getD_eq_getElem?_getD, show m - 1 < L.length by omega]
  have := key L.length (Nat.le_refl _)
  rw [List.take_length] at this
  exact this
theorem srt_le (L : List Int) : (srt L).Pairwise (· ≤ ·) := by
  have h := List.pairwise_mergeSort (le := fun (x y : Int) => decide (x ≤ y)) (fun a b c h1 h2 => by simp only [decide_eq_true_eq] at *; omega) (fun a b => by simp only [Bool.or_eq_true, decide_eq_true_eq]; omega) L
  exact h.imp (fun h => by simpa using h)
/-- What TouchedWords answers. -/
def tch (L : List Wt) : List Int := Lib.compact (srt (L.map (·.p)))
theorem tch_asc (L : List Wt) : Asc (tch L) := (compact_asc (srt_le _)).1
theorem tch_mem {L : List Wt} {x : Int} : x ∈ tch L ↔ ∃ y ∈ L, y.p = x := by
  unfold tch
  rw [(compact_asc (srt_le _)).2, srt, List.mem_mergeSort, List.mem_map]
theorem tch_of {L : List Wt} {T : List Int} (h : Asc T) (hm : ∀ x, x ∈ T ↔ ∃ y ∈ L, y.p = x) : T = tch L :=
  asc_ext h (tch_asc L) (fun x => (hm x).trans tch_mem.symm)
theorem tch_len (L : List Wt) : (tch L).length ≤ L.length := by
  have h1 := Lib.compact_length_le (srt (L.map (·.p)))
  have h2 : (srt (L.map (·.p))).length = (L.map (·.p)).length := List.length_mergeSort _
  rw [h2, List.length_map] at h1
  exact h1
/-- A number is put in at its place. -/
theorem asc_ins {T : List Int} {k : Nat} {q : Int} (h : Asc T) (hk : k ≤ T.length) (hlo : ∀ i x, i < k → T[i]? = some x → x < q) (hhi : ∀ i x, k ≤ i → T[i]? = some x → q < x) : Asc (T.take k ++ (q :: T.drop k)) := by
  have hs : Asc (T.take k ++ T.drop k) := by rw [List.take_append_drop]; exact h
  obtain ⟨h1, h2, h3⟩ := List.pairwise_append.1 hs
  refine List.pairwise_append.2 ⟨h1, List.pairwise_cons.2 ⟨fun b hb => ?_, h2⟩, fun a ha b hb => ?_⟩
  · obtain ⟨i, hi, rfl⟩ := List.mem_iff_getElem.1 hb
    have hi' : k + i < T.length := by simp at hi; omega
    exact hhi (k + i) _ (by omega) (by rw [List.getElem_drop]; simp [hi'])
  · rcases List.mem_cons.1 hb with rfl | hb
    · obtain ⟨i, hi, rfl⟩ := List.mem_iff_getElem.1 ha
      have hi' : i < k ∧ i < T.length := by simp at hi; omega
      exact hlo i _ hi'.1 (by rw [List.getElem_take]; simp [hi'.2])
    · exact h3 a ha b hb
theorem mem_ins {T : List Int} {k : Nat} {q x : Int} : x ∈ T.take k ++ (q :: T.drop k) ↔ x ∈ T ∨ x = q := by
  have e : x ∈ T ↔ x ∈ T.take k ∨ x ∈ T.drop k := by rw [← List.mem_append, List.take_append_drop]
  rw [List.mem_append, List.mem_cons, e]
  constructor
  · rintro (h | h | h)
    · exact .inl (.inl h)
    · exact .inr h
    · exact .inl (.inr h)
  · rintro ((h | h) | h)
    · exact .inl h
    · exact .inr (.inr h)
    · exact .inr (.inl h)
theorem mem_take_succ {L : List Wt} {k : Nat} {s : Wt} (hs : L[k]? = some s) (x : Int) : (∃ y ∈ L.take (k + 1), y.p = x) ↔ (∃ y ∈ L.take k, y.p = x) ∨ x = s.p := by
  rw [List.take_add_one, hs]
  constructor
  · rintro ⟨y, hy, rfl⟩
    rcases List.mem_append.1 hy with h | h
    · exact .inl ⟨y, h, rfl⟩
    · simp at h; subst h; exact .inr rfl
  · rintro (⟨y, hy, rfl⟩ | rfl)
    · exact ⟨y, List.mem_append_left _ hy, rfl⟩
    · exact ⟨s, by simp, rfl⟩
end Go.Proofs.Ytlicadaecfgklaa.wrt
