/- Several texts in one: WtA TrcC SetA EvalB EvalE. -/
import Derived.Test.YtcmhiadaebpgmaaGreatDoorGSig4
import Derived.Lib.RowBridge
import Derived.Test.YtcmhiadaebpgmaaGreatDoorGSig0
import Derived.Test.YtcmhiadaebpgmaaGreatDoorGSig3
import Derived.Test.YtcmhiadaebpgmaaGreatDoorGSig1
import Derived.Laws.EntriesVeiled

/- Chapter 10, plain mathematics: writes, what applying them makes of a row, the first place where two rows differ, and the places of a list of writes in ascending order, each once. -/
namespace Go.Proofs.YtcmhiadaebpgmaaGreatDoor.wrt
open Go.Proofs.YtcmhiadaebpgmaaGreatDoor.expr

/-- A write: the place, the value. -/
structure Wt where
  (p v : Int)
deriving DecidableEq

/-- The row behind one write. -/
def put1 (M : List Int) (x : Wt) : List Int := if 0 ≤ x.p ∧ x.p < M.length then M.set x.p.toNat x.v else M
theorem put1_in {M : List Int} {x : Wt} {k : Nat} (hk : x.p = k) (h : k < M.length) : put1 M x = M.set k x.v := by
  unfold put1; rw [if_pos ⟨by omega, by omega⟩, show x.p.toNat = k by omega]
theorem put1_out {M : List Int} {x : Wt} (h : ¬ (0 ≤ x.p ∧ x.p < M.length)) : put1 M x = M := by unfold put1; rw [if_neg h]
theorem put1_len (M : List Int) (x : Wt) : (put1 M x).length = M.length := by unfold put1; split <;> simp
/-- The row behind all these writes. -/
def putAll (M : List Int) (L : List Wt) : List Int := L.foldl put1 M
theorem putAll_len (L : List Wt) : ∀ M, (putAll M L).length = M.length := by
  induction L with
  | nil => intro M; rfl
  | cons x L ih => intro M; show (putAll (put1 M x) L).length = _; rw [ih, put1_len]
theorem putAll_snoc {M : List Int} {L : List Wt} {k : Nat} {x : Wt} (h : L[k]? = some x) : putAll M (L.take (k + 1)) = put1 (putAll M (L.take k)) x := by
  unfold putAll; rw [List.take_add_one, h]; simp
theorem putAll_app (M : List Int) (K L : List Wt) : putAll M (K ++ L) = putAll (putAll M K) L := by unfold putAll; rw [List.foldl_append]
/-- What ApplyWrites answers. -/
def appW (M : List Int) (L : List Wt) (c : Int) : List Int := putAll M (L.take c.toNat)
theorem appW_len (M : List Int) (L : List Wt) (c : Int) : (appW M L c).length = M.length := putAll_len _ _
theorem appW_all (M : List Int) (L : List Wt) {c : Int} (h : (L.length : Int) ≤ c) : appW M L c = putAll M L := by
  unfold appW; rw [List.take_of_length_le (by omega)]
theorem put1_other {M : List Int} {x : Wt} {k : Nat} (h : x.p ≠ k) : (put1 M x)[k]? = M[k]? := by
  unfold put1
  split
  · rw [List.getElem?_set_ne (by omega)]
  · rfl
theorem putAll_other {k : Nat} : ∀ (L : List Wt) (M : List Int), (∀ x ∈ L, x.p ≠ k) → (putAll M L)[k]? = M[k]?
  | [], _, _ => rfl
  | x :: L, M, h => by
    show (putAll (put1 M x) L)[k]? = _
    rw [putAll_other L (put1 M x) (fun y hy => h y (List.mem_cons_of_mem _ hy)), put1_other (h x (List.mem_cons_self ..))]

/-- 'r' is the first place where the rows differ, or -1. -/
def FdIs (A B : List Int) (r : Int) : Prop := (r = -1 ∧ A = B) ∨ ∃ k : Nat, r = k ∧ (∀ j, j < k → A[j]? = B[j]?) ∧ A[k]? ≠ B[k]?
theorem fd_ex (A B : List Int) : ∃ r, FdIs A B r := by
  induction A generalizing B with
  | nil =>
    cases B with
    | nil => exact ⟨-1, .inl ⟨rfl, rfl⟩⟩
    | cons b B => exact ⟨0, .inr ⟨0, rfl, fun j hj => absurd hj (by omega), by simp⟩⟩
  | cons a A ih =>
    cases B with
    | nil => exact ⟨0, .inr ⟨0, rfl, fun j hj => absurd hj (by omega), by simp⟩⟩
    | cons b B =>
      by_cases h : a = b
      · subst h
        obtain ⟨r, hr⟩ := ih B
        rcases hr with ⟨rfl, rfl⟩ | ⟨k, rfl, h1, h2⟩
        · exact ⟨-1, .inl ⟨rfl, rfl⟩⟩
        · refine ⟨((k + 1 : Nat) : Int), .inr ⟨k + 1, rfl, fun j hj => ?_, by simpa using h2⟩⟩
          cases j with
          | zero => rfl
          | succ j => simpa using h1 j (by omega)
      · exact ⟨0, .inr ⟨0, rfl, fun j hj => absurd hj (by omega), by simpa using h⟩⟩
theorem fd_at {A B : List Int} {r : Int} (h : FdIs A B r) {k : Nat} (h1 : ∀ j, j < k → A[j]? = B[j]?) (h2 : A[k]? ≠ B[k]?) : r = k := by
  rcases h with ⟨_, rfl⟩ | ⟨m, rfl, h3, h4⟩
  · exact absurd rfl h2
  · rcases Nat.lt_trichotomy k m with hl | hl | hl
    · exact absurd (h3 k hl) h2
    · rw [hl]
    · exact absurd (h1 m hl) h4
theorem fd_none {A B : List Int} {r : Int} (h : FdIs A B r) (h1 : A = B) : r = -1 := by
  rcases h with ⟨h, _⟩ | ⟨m, _, _, h4⟩
  · exact h
  · subst h1; exact absurd rfl h4
theorem fd_end {A B : List Int} {r : Int} (h : FdIs A B r) {k : Nat} (h1 : ∀ j, j < k → A[j]? = B[j]?) (h2 : A.length ≤ k) (h3 : B.length ≤ k) : r = -1 := by
  refine fd_none h (List.ext_getElem? fun j => ?_)
  by_cases hj : j < k
  · exact h1 j hj
  · rw [List.getElem?_eq_none (by omega), List.getElem?_eq_none (by omega)]
theorem fd_set {A : List Int} {k : Nat} {x y : Int} (hx : A[k]? = some x) (hy : y ≠ x) : FdIs A (A.set k y) k := by
  have hk := (List.getElem?_eq_some_iff.1 hx).1
  refine .inr ⟨k, rfl, fun j hj => by rw [List.getElem?_set_ne (by omega)], ?_⟩
  rw [hx, List.getElem?_set_self hk]; intro e; exact hy (Option.some.inj e).symm

/-- Strictly ascending. -/
abbrev Asc (L : List Int) : Prop := L.Pairwise (· < ·)
theorem asc_ext {K L : List Int} (h1 : Asc K) (h2 : Asc L) (h : ∀ x, x ∈ K ↔ x ∈ L) : K = L := by
  have n1 : K.Nodup := h1.imp (fun h => by omega)
  have n2 : L.Nodup := h2.imp (fun h => by omega)
  have hp : K.Perm L := (List.perm_ext_iff_of_nodup n1 n2).2 h
  exact List.Perm.eq_of_pairwise (le := (· < ·)) (fun a b _ _ h1 h2 => by omega) h1 h2 hp
theorem asc_at {L : List Int} (h : Asc L) {i j : Nat} (hij : i < j) {x y : Int} (hx : L[i]? = some x) (hy : L[j]? = some y) : x < y := by
  obtain ⟨h1, rfl⟩ := List.getElem?_eq_some_iff.1 hx
  obtain ⟨h2, rfl⟩ := List.getElem?_eq_some_iff.1 hy
  exact List.pairwise_iff_getElem.1 h i j h1 h2 hij
theorem compact_asc {L : List Int} (h : L.Pairwise (· ≤ ·)) : Asc (Lib.compact L) ∧ ∀ x, x ∈ Lib.compact L ↔ x ∈ L := by
  have hg : ∀ j, j < L.length → L.toArray[j]! = L.getD j 0 := fun j hj => by
    simp [List.getD_eq_getElem?_getD, hj]
  have key : ∀ m, m ≤ L.length → Asc (Lib.compactUpTo L.toArray m) ∧ (∀ x, x ∈ Lib.compactUpTo L.toArray m ↔ x ∈ L.take m) := by
    intro m
    induction m with
    | zero => intro _; simp [Lib.compactUpTo]
    | succ m ih =>
      intro hm
      obtain ⟨i1, i2⟩ := ih (by omega)
      have hmL : L[m]? = some (L.getD m 0) := by simp [List.getD_eq_getElem?_getD, show m < L.length by omega]
      have htk : L.take (m + 1) = L.take m ++ [L.getD m 0] := by rw [List.take_add_one, hmL]; rfl
      have hle : ∀ x ∈ L.take m, x ≤ L.getD m 0 := by
        intro x hx
        obtain ⟨i, hi, rfl⟩ := List.mem_iff_getElem.1 hx
        have hi' : i < m := by simp at hi; omega
        rw [List.getElem_take]
        have := List.pairwise_iff_getElem.1 h i m (by omega) (by omega) hi'
        simpa [List.getD_eq_getElem?_getD, show m < L.length by omega] using this
      rw [Lib.compactUpTo_succ, hg m (by omega)]
      by_cases hk : Lib.keeps L.toArray m = true
      · rw [if_pos hk]
        have hnew : ∀ x ∈ L.take m, x < L.getD m 0 := by
          intro x hx
          have hx1 := hle x hx
          rcases Int.lt_or_eq_of_le hx1 with hlt | heq
          · exact hlt
          · exfalso
            subst heq
            have hm0 : m ≠ 0 := by intro e; subst e; simp at hx
            have hne : L.toArray[m]! ≠ L.toArray[m - 1]! := by
              simp only [Lib.keeps, decide_eq_true_eq] at hk
              rcases hk with hk | hk
              · exact absurd hk hm0
              · exact hk
            rw [hg m (by omega), hg (m - 1) (by omega)] at hne
            obtain ⟨i, hi, hxi⟩ := List.mem_iff_getElem.1 hx
            have hi' : i < m := by simp at hi; omega
            rw [List.getElem_take] at hxi
            have h1 : L[i] ≤ L[m - 1] := by
              rcases Nat.lt_or_ge i (m - 1) with hl | hl
              · exact List.pairwise_iff_getElem.1 h i (m - 1) (by omega) (by omega) hl
              · have : i = m - 1 := by omega
                subst this; exact Int.le_refl _
            have h2 : L[m - 1] ≤ L[m] := List.pairwise_iff_getElem.1 h (m - 1) m (by omega) (by omega) (by omega)
            have e1 : L.getD m 0 = L[m] := by simp [List.getD_eq_getElem?_getD, show m < L.length by omega]
            have e2 : L.getD (m - 1) 0 = L[m - 1] := by simp [List.getD_eq_getElem?_getD, show m - 1 < L.length by omega]
            rw [e1, e2] at hne
            rw [e1] at hxi
            omega
        refine ⟨List.pairwise_append.2 ⟨i1, by simp, fun a ha b hb => ?_⟩, fun x => ?_⟩
        · rw [List.mem_singleton] at hb; subst hb
          exact hnew a ((i2 a).1 ha)
        · rw [htk, List.mem_append, List.mem_append, i2 x]
      · rw [if_neg hk, List.append_nil]
        refine ⟨i1, fun x => ?_⟩
        rw [htk, List.mem_append, i2 x]
        constructor
        · exact .inl
        · rintro (hx | hx)
          · exact hx
          · rw [List.mem_singleton] at hx; subst hx
            have hk' : ¬ (m = 0 ∨ L.toArray[m]! ≠ L.toArray[m - 1]!) := by simpa [Lib.keeps] using hk
            have hm0 : m ≠ 0 := fun e => hk' (.inl e)
            have he : L.toArray[m]! = L.toArray[m - 1]! := by
              by_cases he : L.toArray[m]! = L.toArray[m - 1]!
              · exact he
              · exact absurd (.inr he) hk'
            rw [hg m (by omega), hg (m - 1) (by omega)] at he
            rw [he]
            refine List.mem_iff_getElem.2 ⟨m - 1, by simp; omega, ?_⟩
            rw [List.getElem_take]
            simp [List.getD_eq_getElem?_getD, show m - 1 < L.length by omega]
  have := key L.length (Nat.le_refl _)
  rw [List.take_length] at this
  exact this
theorem srt_le (L : List Int) : (srt L).Pairwise (· ≤ ·) := by
  have h := List.pairwise_mergeSort (le := fun (x y : Int) => decide (x ≤ y)) (fun a b c h1 h2 => by simp only [decide_eq_true_eq] at *; omega) (fun a b => by simp only [Bool.or_eq_true, decide_eq_true_eq]; omega) L
  exact h.imp (fun h => by simpa using h)
/-- What TouchedWords answers. -/
def tch (L : List Wt) : List Int := Lib.compact (srt (L.map (·.p)))
theorem tch_asc (L : List Wt) : Asc (tch L) := (compact_asc (srt_le _)).1
theorem tch_mem {L : List Wt} {x : Int} : x ∈ tch L ↔ ∃ y ∈ L, y.p = x := by
  unfold tch
  rw [(compact_asc (srt_le _)).2, srt, List.mem_mergeSort, List.mem_map]
theorem tch_of {L : List Wt} {T : List Int} (h : Asc T) (hm : ∀ x, x ∈ T ↔ ∃ y ∈ L, y.p = x) : T = tch L :=
  asc_ext h (tch_asc L) (fun x => (hm x).trans tch_mem.symm)
theorem tch_len (L : List Wt) : (tch L).length ≤ L.length := by
  have h1 := Lib.compact_length_le (srt (L.map (·.p)))
  have h2 : (srt (L.map (·.p))).length = (L.map (·.p)).length := List.length_mergeSort _
  rw [h2, List.length_map] at h1
  exact h1
/-- A number is put in at its place. -/
theorem asc_ins {T : List Int} {k : Nat} {q : Int} (h : Asc T) (hk : k ≤ T.length) (hlo : ∀ i x, i < k → T[i]? = some x → x < q) (hhi : ∀ i x, k ≤ i → T[i]? = some x → q < x) : Asc (T.take k ++ (q :: T.drop k)) := by
  have hs : Asc (T.take k ++ T.drop k) := by rw [List.take_append_drop]; exact h
  obtain ⟨h1, h2, h3⟩ := List.pairwise_append.1 hs
  refine List.pairwise_append.2 ⟨h1, List.pairwise_cons.2 ⟨fun b hb => ?_, h2⟩, fun a ha b hb => ?_⟩
  · obtain ⟨i, hi, rfl⟩ := List.mem_iff_getElem.1 hb
    have hi' : k + i < T.length := by simp at hi; omega
    exact hhi (k + i) _ (by omega) (by rw [List.getElem_drop]; simp [hi'])
  · rcases List.mem_cons.1 hb with rfl | hb
    · obtain ⟨i, hi, rfl⟩ := List.mem_iff_getElem.1 ha
      have hi' : i < k ∧ i < T.length := by simp at hi; omega
      exact hlo i _ hi'.1 (by rw [List.getElem_take]; simp [hi'.2])
    · exact h3 a ha b hb
theorem mem_ins {T : List Int} {k : Nat} {q x : Int} : x ∈ T.take k ++ (q :: T.drop k) ↔ x ∈ T ∨ x = q := by
  have e : x ∈ T ↔ x ∈ T.take k ∨ x ∈ T.drop k := by rw [← List.mem_append, List.take_append_drop]
  rw [List.mem_append, List.mem_cons, e]
  constructor
  · rintro (h | h | h)
    · exact .inl (.inl h)
    · exact .inr h
    · exact .inl (.inr h)
  · rintro ((h | h) | h)
    · exact .inl h
    · exact .inr (.inr h)
    · exact .inr (.inl h)
theorem mem_take_succ {L : List Wt} {k : Nat} {s : Wt} (hs : L[k]? = some s) (x : Int) : (∃ y ∈ L.take (k + 1), y.p = x) ↔ (∃ y ∈ L.take k, y.p = x) ∨ x = s.p := by
  rw [List.take_add_one, hs]
  constructor
  · rintro ⟨y, hy, rfl⟩
    rcases List.mem_append.1 hy with h | h
    · exact .inl ⟨y, h, rfl⟩
    · simp at h; subst h; exact .inr rfl
  · rintro (⟨y, hy, rfl⟩ | rfl)
    · exact ⟨y, List.mem_append_left _ hy, rfl⟩
    · exact ⟨s, by simp, rfl⟩
end Go.Proofs.YtcmhiadaebpgmaaGreatDoor.wrt

/- Chapter 14, plain mathematics: steps: what they cost, the writes among them, how many of them an energy allows. -/
namespace Go.Proofs.YtcmhiadaebpgmaaGreatDoor.trc
open Go Go.Proofs.YtcmhiadaebpgmaaGreatDoor.wrt

/-- A step: what it costs, the word that it writes or -1, the value. -/
structure Mic where
  (c a v : Int)
deriving DecidableEq
def kindT (k : Int) : Int := if k = 1 then 2 else if k = 2 then 5 else if k = 3 then 4 else if k = 4 then 1 else if k = 5 then 1 else 0
def stepM (k : Int) : Mic := ⟨kindT k, -1, 0⟩
def wrM (a v : Int) : Mic := ⟨3, a, v⟩
/-! All writes together. -/
def wrs (M : List Mic) : List Wt := (M.filter fun m => !decide (m.a = -1)).map fun m => ⟨m.a, m.v⟩
theorem wrs_app (M N : List Mic) : wrs (M ++ N) = wrs M ++ wrs N := by simp [wrs]
theorem wrs_step (k : Int) : wrs [stepM k] = [] := by simp [wrs, stepM]
theorem wrs_cons_step (k : Int) (M : List Mic) : wrs (stepM k :: M) = wrs M := by simp [wrs, stepM]
theorem wrs_wr {a v : Int} (h : 0 ≤ a) (M : List Mic) : wrs (wrM a v :: M) = ⟨a, v⟩ :: wrs M := by
  have : ¬ a = -1 := by omega
  simp [wrs, wrM, this]
theorem putAll_cons (W : List Int) (x : Wt) (L : List Wt) : putAll W (x :: L) = putAll (put1 W x) L := rfl
theorem putAll_nil (W : List Int) : putAll W [] = W := rfl
/-! Costs. -/
def CostOk (M : List Mic) : Prop := ∀ m ∈ M, 1 ≤ m.c ∧ m.c ≤ 5
theorem CostOk.app {M N : List Mic} (h : CostOk M) (k : CostOk N) : CostOk (M ++ N) := fun m hm => (List.mem_append.1 hm).elim (h m) (k m)
theorem kind_cost {k : Int} (h : 1 ≤ k) (h5 : k ≤ 5) : 1 ≤ kindT k ∧ kindT k ≤ 5 := by
  unfold kindT
  split
  · omega
  split
  · omega
  split
  · omega
  split
  · omega
  split <;> omega
theorem step_cost {k : Int} (h : 1 ≤ k) (h5 : k ≤ 5) : CostOk [stepM k] := fun m hm => by rw [List.mem_singleton.1 hm]; exact kind_cost h h5
theorem wr_cost {M : List Mic} (h : CostOk M) (a v : Int) : CostOk (wrM a v :: M) := fun m hm => by
  rcases List.mem_cons.1 hm with rfl | hm
  · simp [wrM]
  · exact h m hm
theorem nil_cost : CostOk [] := fun m hm => by cases hm
def csts (M : List Mic) : List Int := M.map (·.c)
/-- The sum of all costs as an int. -/
def costW (C : List Int) : Int := C.foldl (fun n c => IntKind.i64.wrap (n + c)) 0
/-- How many steps an energy allows behind steps that have cost 'a'. -/
def cntC (e : Int) : Int → List Int → Nat
  | _, [] => 0
  | a, c :: C => if a + c ≤ e then cntC e (a + c) C + 1 else 0
def cntE (C : List Int) (e : Int) : Nat := if e < 0 then 0 else cntC e 0 C
theorem cntC_le (e : Int) : ∀ (C : List Int) (a : Int), cntC e a C ≤ C.length
  | [], _ => by simp [cntC]
  | c :: C, a => by
    unfold cntC
    have := cntC_le e C (a + c)
    split <;> simp <;> omega
theorem cntC_mono {e e' : Int} (h : e ≤ e') : ∀ (C : List Int) (a : Int), cntC e a C ≤ cntC e' a C
  | [], _ => by simp [cntC]
  | c :: C, a => by
    unfold cntC
    have := cntC_mono h C (a + c)
    by_cases h1 : a + c ≤ e
    · rw [if_pos h1, if_pos (by omega)]; omega
    · rw [if_neg h1]; omega
theorem cntC_all {e : Int} : ∀ (C : List Int) (a : Int), (∀ c ∈ C, 0 ≤ c) → a + C.sum ≤ e → cntC e a C = C.length
  | [], _, _, _ => by simp [cntC]
  | c :: C, a, h, hs => by
    rw [List.sum_cons] at hs
    have h0 : 0 ≤ C.sum := sum_nonneg C (fun x hx => h x (by simp [hx]))
    unfold cntC
    have ih := cntC_all (e := e) C (a + c) (fun x hx => h x (by simp [hx])) (show a + c + C.sum ≤ e by omega)
    rw [if_pos (by omega), ih]
    rfl
where
  sum_nonneg : ∀ C : List Int, (∀ c ∈ C, 0 ≤ c) → 0 ≤ C.sum
    | [], _ => by simp
    | c :: C, h => by
      rw [List.sum_cons]
      have h1 := h c (by simp)
      have h2 := sum_nonneg C (fun x hx => h x (by simp [hx]))
      omega
theorem cntC_less {e : Int} : ∀ (C : List Int) (a : Int), C ≠ [] → e < a + C.sum → cntC e a C < C.length
  | [], _, h, _ => (h rfl).elim
  | c :: C, a, _, hs => by
    rw [List.sum_cons] at hs
    unfold cntC
    split
    · rename_i h1
      have hne : C ≠ [] := fun e0 => by subst e0; simp at hs; omega
      have := cntC_less (e := e) C (a + c) hne (by omega)
      simp; omega
    · simp
theorem sum_bounds : ∀ (C : List Int), (∀ c ∈ C, 1 ≤ c ∧ c ≤ 5) → (C.length : Int) ≤ C.sum ∧ C.sum ≤ 5 * C.length
  | [], _ => by simp
  | c :: C, h => by
    rw [List.sum_cons, List.length_cons]
    have h1 := h c (by simp)
    have h2 := sum_bounds C (fun x hx => h x (by simp [hx]))
    omega
theorem cost_sum {C : List Int} (h : ∀ c ∈ C, 1 ≤ c ∧ c ≤ 5) (hl : C.length ≤ 100000) : costW C = C.sum := by
  have key : ∀ (C : List Int) (a : Int), (∀ c ∈ C, 1 ≤ c ∧ c ≤ 5) → 0 ≤ a → a + 5 * C.length ≤ 1000000 → C.foldl (fun n c => IntKind.i64.wrap (n + c)) a = a + C.sum := by
    intro C
    induction C with
    | nil => intro a _ _ _; simp
    | cons c C ih =>
      intro a h h0 hb
      have h1 := h c (by simp)
      rw [List.length_cons] at hb
      rw [List.foldl_cons, IntWalk.i64_in _ (by omega), ih (a + c) (fun x hx => h x (by simp [hx])) (by omega) (by omega), List.sum_cons]
      omega
  have := key C 0 h (by omega) (by omega)
  simpa [costW] using this
/-- What the law of the counted steps asks. -/
theorem counted {C : List Int} (h : ∀ c ∈ C, 1 ≤ c ∧ c ≤ 5) (hl : C.length ≤ 100000) (hne : C ≠ []) (n : Int) :
    cntE C n ≤ cntE C (n + 1) ∧ cntE C (costW C) = C.length ∧ cntE C (costW C - 1) < C.length ∧ (n < costW C ∨ cntE C n = C.length) := by
  have hs := cost_sum h hl
  have hb := sum_bounds C h
  have hpos : 0 < C.length := by cases C; exact (hne rfl).elim; simp
  rw [hs]
  refine ⟨?_, ?_, ?_, ?_⟩
  · unfold cntE
    split
    · omega
    · rw [if_neg (by omega)]; exact cntC_mono (by omega) C 0
  · unfold cntE
    rw [if_neg (by omega)]
    exact cntC_all C 0 (fun c hc => by have := h c hc; omega) (by omega)
  · unfold cntE
    split
    · exact hpos
    · exact cntC_less C 0 hne (by omega)
  · by_cases hn : n < C.sum
    · exact .inl hn
    · right
      unfold cntE
      rw [if_neg (by omega)]
      exact cntC_all C 0 (fun c hc => by have := h c hc; omega) (by omega)
end Go.Proofs.YtcmhiadaebpgmaaGreatDoor.trc

/- The sets of variables of a block: what may be written, what is certainly written ahead of a place, what can be read before it is written. Plain mathematics. -/
namespace Go.Proofs.YtcmhiadaebpgmaaGreatDoor.sets
open Go Go.Proofs.YtcmhiadaebpgmaaGreatDoor.stm Go.Proofs.YtcmhiadaebpgmaaGreatDoor.blk Go.Proofs.YtcmhiadaebpgmaaGreatDoor.expr

abbrev Sm := Go.Proofs.YtcmhiadaebpgmaaGreatDoor.stm.St
/-- The statement writes its variable. -/
def wr (s : Sm) : Prop := s.k = 1 ∨ s.k = 2
/-- The statement reads its expression. -/
def rds (s : Sm) : Prop := s.k = 1 ∨ s.k = 3 ∨ s.k = 4
/-- The variables of a set, in ascending order, below 'k'. -/
def lst (f : Nat → Bool) (k : Nat) : List Int := ((List.range k).filter f).map fun (j : Nat) => (j : Int)
theorem lst_zero (f : Nat → Bool) : lst f 0 = [] := rfl
theorem lst_yes {f : Nat → Bool} {k : Nat} (h : f k = true) : lst f (k + 1) = lst f k ++ [(k : Int)] := by simp [lst, List.range_succ, h]
theorem lst_no {f : Nat → Bool} {k : Nat} (h : f k = false) : lst f (k + 1) = lst f k := by simp [lst, List.range_succ, h]
theorem lst_len (f : Nat → Bool) (k : Nat) : (lst f k).length ≤ k := by
  have := List.length_filter_le f (List.range k)
  simpa [lst] using this
theorem lst_congr {f g : Nat → Bool} {k : Nat} (h : ∀ v, v < k → f v = g v) : lst f k = lst g k := by
  unfold lst
  rw [List.filter_congr (fun v hv => h v (List.mem_range.1 hv))]
theorem lst_mem {f : Nat → Bool} {k v : Nat} : (v : Int) ∈ lst f k ↔ v < k ∧ f v = true := by
  unfold lst
  simp only [List.mem_map, List.mem_filter, List.mem_range]
  constructor
  · rintro ⟨a, h, e⟩
    obtain rfl : a = v := by omega
    exact h
  · exact fun h => ⟨v, h, rfl⟩
theorem lst_nil {f : Nat → Bool} (h : ∀ v, f v = false) : ∀ k, lst f k = []
  | 0 => rfl
  | k + 1 => by rw [lst_no (h k), lst_nil h k]
/-- The statement 'j' writes the variable 'v'. -/
def WrAt (B : List Sm) (j v : Nat) : Prop := ∃ s, B[j]? = some s ∧ wr s ∧ s.v = v
/-- Written ahead of the place 'p', in some execution. -/
def MayTo (B : List Sm) (p v : Nat) : Prop := ∃ j, j < p ∧ WrAt B j v
/-- The place 'p' lies inside the condition 'i'. -/
def InIf (B : List Sm) (i p : Nat) : Prop := ∃ e s, B[i]? = some s ∧ s.k = 4 ∧ IsEnd B i e ∧ i < p ∧ p ≤ e
/-- Certainly written ahead of the place 'p'. -/
def WAt (B : List Sm) (p v : Nat) : Prop := ∃ j, j < p ∧ WrAt B j v ∧ ∀ i, InIf B i j → InIf B i p
/-- The statement 'j' reads the variable 'v'. -/
def RdAt (B : List Sm) (j v : Nat) : Prop := ∃ s, B[j]? = some s ∧ rds s ∧ (v : Int) ∈ rd s.a s.b 8
/-- Read ahead of the place 'p', before it is certainly written. -/
def FAt (B : List Sm) (p v : Nat) : Prop := ∃ j, j < p ∧ RdAt B j v ∧ ¬ WAt B j v

theorem mayTo_zero {B : List Sm} {v : Nat} : ¬ MayTo B 0 v := fun ⟨j, h, _⟩ => by omega
theorem mayTo_succ {B : List Sm} {p v : Nat} : MayTo B (p + 1) v ↔ MayTo B p v ∨ WrAt B p v := by
  constructor
  · rintro ⟨j, hj, h⟩
    by_cases e : j = p
    · subst e; exact .inr h
    · exact .inl ⟨j, by omega, h⟩
  · rintro (⟨j, hj, h⟩ | h)
    · exact ⟨j, by omega, h⟩
    · exact ⟨p, by omega, h⟩
/-- Ends are nested. -/
theorem end_in {B : List Sm} {i e i' e' : Nat} (h : IsEnd B i e) (h' : IsEnd B i' e') (h1 : i' < i) (h2 : i ≤ e') : e < e' := by
  have a1 := h'.2.2.2 i h1 h2
  rcases Nat.lt_trichotomy e e' with hlt | rfl | hlt
  · exact hlt
  · have := h.2.2.1; have := h'.2.2.1; omega
  · have := h.2.2.2 (e' + 1) (by omega) (by omega); have := h'.2.2.1; omega
theorem wAt_zero {B : List Sm} {v : Nat} : ¬ WAt B 0 v := fun ⟨j, h, _⟩ => by omega
theorem WrAt.not6 {B : List Sm} {j v i e : Nat} (h : WrAt B j v) (he : IsEnd B i e) : j ≠ e := by
  rintro rfl
  obtain ⟨s, hs, hw, _⟩ := h
  obtain ⟨t, ht, h6⟩ := he.kind
  rw [hs] at ht
  cases ht
  rcases hw with h | h <;> omega
/-- One place on, where no condition ends. -/
theorem wAt_succ {B : List Sm} {p v : Nat} (hp : ∀ i s, B[i]? = some s → s.k = 4 → ¬ IsEnd B i p) : WAt B (p + 1) v ↔ WAt B p v ∨ WrAt B p v := by
  constructor
  · rintro ⟨j, hj, hw, hi⟩
    by_cases e : j = p
    · subst e; exact .inr hw
    · refine .inl ⟨j, by omega, hw, fun i h => ?_⟩
      obtain ⟨e1, s1, h1, h2, h3, h4, h5⟩ := h
      obtain ⟨e2, s2, g1, g2, g3, g4, g5⟩ := hi i ⟨e1, s1, h1, h2, h3, h4, h5⟩
      exact ⟨e2, s2, g1, g2, g3, by omega, by omega⟩
  · rintro (⟨j, hj, hw, hi⟩ | hw)
    · refine ⟨j, by omega, hw, fun i h => ?_⟩
      obtain ⟨e2, s2, g1, g2, g3, g4, g5⟩ := hi i h
      have : p ≠ e2 := fun e => hp i s2 g1 g2 (by rw [e]; exact g3)
      exact ⟨e2, s2, g1, g2, g3, by omega, by omega⟩
    · refine ⟨p, by omega, hw, fun i h => ?_⟩
      obtain ⟨e2, s2, g1, g2, g3, g4, g5⟩ := h
      have := hw.not6 g3
      exact ⟨e2, s2, g1, g2, g3, by omega, by omega⟩
/-- A condition discards what it wrote. -/
theorem wAt_if {B : List Sm} {i e v : Nat} {s : Sm} (hs : B[i]? = some s) (h4 : s.k = 4) (he : IsEnd B i e) : WAt B (e + 1) v ↔ WAt B i v := by
  constructor
  · rintro ⟨j, hj, hw, hi⟩
    have hji : j < i := by
      by_cases h : j < i
      · exact h
      · exfalso
        by_cases e2 : j = i
        · subst e2
          obtain ⟨t, ht, hw2, _⟩ := hw
          rw [hs] at ht; cases ht
          rcases hw2 with h | h <;> omega
        · obtain ⟨e2, s2, g1, g2, g3, g4, g5⟩ := hi i ⟨e, s, hs, h4, he, by omega, by omega⟩
          have := he.unique g3
          omega
    refine ⟨j, hji, hw, fun i' h => ?_⟩
    obtain ⟨e1, s1, h1, h2, h3, h5, h6⟩ := h
    obtain ⟨e2, s2, g1, g2, g3, g4, g5⟩ := hi i' ⟨e1, s1, h1, h2, h3, h5, h6⟩
    have := he.1
    exact ⟨e2, s2, g1, g2, g3, by omega, by omega⟩
  · rintro ⟨j, hj, hw, hi⟩
    refine ⟨j, by have := he.1; omega, hw, fun i' h => ?_⟩
    obtain ⟨e2, s2, g1, g2, g3, g4, g5⟩ := hi i' h
    have := end_in he g3 g4 g5
    exact ⟨e2, s2, g1, g2, g3, by have := he.1; omega, by omega⟩
theorem fAt_zero {B : List Sm} {v : Nat} : ¬ FAt B 0 v := fun ⟨j, h, _⟩ => by omega
theorem fAt_succ {B : List Sm} {p v : Nat} : FAt B (p + 1) v ↔ FAt B p v ∨ (RdAt B p v ∧ ¬ WAt B p v) := by
  constructor
  · rintro ⟨j, hj, h⟩
    by_cases e : j = p
    · subst e; exact .inr h
    · exact .inl ⟨j, by omega, h⟩
  · rintro (⟨j, hj, h⟩ | h)
    · exact ⟨j, by omega, h⟩
    · exact ⟨p, by omega, h⟩
/-- The end reads and writes nothing. -/
theorem end_nothing {B : List Sm} {i e v : Nat} (he : IsEnd B i e) : ¬ WrAt B e v ∧ ¬ RdAt B e v := by
  obtain ⟨t, ht, h6⟩ := he.kind
  constructor
  · rintro ⟨s, hs, hw, _⟩
    rw [hs] at ht; cases ht
    rcases hw with h | h <;> omega
  · rintro ⟨s, hs, hw, _⟩
    rw [hs] at ht; cases ht
    rcases hw with h | h | h <;> omega
/-- No condition is around the place. -/
def Out (B : List Sm) (p : Nat) : Prop := ∀ i, ¬ InIf B i p
theorem Out.zero (B : List Sm) : Out B 0 := fun i ⟨_, _, _, _, _, h, _⟩ => by omega
theorem Out.noEnd {B : List Sm} {p : Nat} (h : Out B p) : ∀ i s, B[i]? = some s → s.k = 4 → ¬ IsEnd B i p := fun i s hs h4 he => h i ⟨p, s, hs, h4, he, he.1, Nat.le_refl _⟩
theorem Out.succ {B : List Sm} {p : Nat} {s : Sm} (h : Out B p) (hs : B[p]? = some s) (h4 : s.k ≠ 4) : Out B (p + 1) := fun i ⟨e, t, h1, h2, h3, h5, h6⟩ => by
  by_cases e1 : i = p
  · subst e1; rw [hs] at h1; cases h1; exact h4 h2
  · exact h i ⟨e, t, h1, h2, h3, by omega, by omega⟩
theorem Out.jump {B : List Sm} {i e : Nat} (h : Out B i) (he : IsEnd B i e) : Out B (e + 1) := fun i' ⟨e', t, h1, h2, h3, h5, h6⟩ => by
  rcases Nat.lt_trichotomy i' i with hlt | rfl | hlt
  · exact h i' ⟨e', t, h1, h2, h3, hlt, by have := he.1; omega⟩
  · have := he.unique h3; omega
  · have := end_in h3 he hlt (by omega); omega
/-- A part of a block that begins and ends at the same height and is nowhere lower. -/
def Seg (B : List Sm) (a b : Nat) : Prop := a ≤ b ∧ b ≤ B.length ∧ hAt B b = hAt B a ∧ ∀ j, a ≤ j → j ≤ b → hAt B a ≤ hAt B j
theorem Seg.all {B : List Sm} (h : IsBlk B) : Seg B 0 B.length := ⟨Nat.zero_le _, Nat.le_refl _, by rw [h.2.1, hAt_zero], fun j _ _ => by rw [hAt_zero]; exact (blk_bounds h j).1⟩
theorem Seg.not6 {B : List Sm} {a b p : Nat} {s : Sm} (h : Seg B a b) (hp : a ≤ p) (hpb : p < b) (hh : hAt B p = hAt B a) (hs : B[p]? = some s) : s.k ≠ 6 := fun h6 => by
  have h1 := hAt_succ hs
  rw [dlt_end h6] at h1
  have := h.2.2.2 (p + 1) (by omega) (by omega)
  omega
theorem Seg.noEnd {B : List Sm} {a b p : Nat} (h : Seg B a b) (hp : a ≤ p) (hpb : p < b) (hh : hAt B p = hAt B a) : ∀ i s, B[i]? = some s → s.k = 4 → ¬ IsEnd B i p := fun i s _ _ he => by
  obtain ⟨t, ht, h6⟩ := he.kind
  exact h.not6 hp hpb hh ht h6
theorem Seg.inner {B : List Sm} {a b i e : Nat} (h : Seg B a b) (hib : i < b) (hh : hAt B i = hAt B a) (he : IsEnd B i e) : e < b ∧ Seg B (i + 1) e ∧ hAt B (e + 1) = hAt B a := by
  have h1 := he.2.2.1
  have heb : e < b := by
    by_cases h9 : e < b
    · exact h9
    · have := he.2.2.2 b hib (by omega); have := h.2.2.1; omega
  obtain ⟨s, hs, ho⟩ := he.opens
  have h2 := hAt_succ hs
  rw [dlt_opn ho] at h2
  refine ⟨heb, ⟨by have := he.1; omega, by have := h.2.1; omega, ?_, fun j h3 h4 => ?_⟩, by omega⟩
  · have := he.depth; omega
  · have := he.2.2.2 j (by omega) h4; omega
end Go.Proofs.YtcmhiadaebpgmaaGreatDoor.sets

/- Chapter 3's EvalExpr, of the program and of the model: the plain function 'evalV'; nothing that was there is written. -/
namespace Go.Proofs.YtcmhiadaebpgmaaGreatDoor.expr
open Go.ChangeShapes Go.WideShapes Go.ChangeAt Go.RowKit Go.Proofs.YtcmhiadaebpgmaaGreatDoor.row Go.Proofs.YtcmhiadaebpgmaaGreatDoor.val

def bit (b : Bool) : Int := if b then 1 else 0
def evalOf (o A B : Int) : Int :=
  if o = 1 then sat (sat A + sat B) else if o = 2 then sat (sat A - sat B) else if o = 3 then sat (sat A * sat B)
  else if o = 4 then min A B else if o = 5 then max A B else if o = 6 then bit (decide (A < B)) else bit (decide (A = B))
def evalV (L : List Int) (o a b : Int) : Int := if varsOk L && exprOk o a b then evalOf o (valOf L a) (valOf L b) else 0
theorem evalV_no {L : List Int} {o a b : Int} (h : varsOk L = false ∨ exprOk o a b = false) : evalV L o a b = 0 := by
  rcases h with h | h <;> simp [evalV, h]
theorem evalV_ok {L : List Int} {o a b : Int} (h : varsOk L = true) (h2 : exprOk o a b = true) : evalV L o a b = evalOf o (valOf L a) (valOf L b) := by simp [evalV, h, h2]
theorem exprOk_iff (o a b : Int) : exprOk o a b = true ↔ (1 ≤ o ∧ o ≤ 7) ∧ opndOk a = true ∧ opndOk b = true := by simp [exprOk, opOk]

theorem ev1 (A B : Int) : evalOf 1 A B = sat (sat A + sat B) := by simp [evalOf]
theorem ev2 (A B : Int) : evalOf 2 A B = sat (sat A - sat B) := by simp [evalOf]
theorem ev3 (A B : Int) : evalOf 3 A B = sat (sat A * sat B) := by simp [evalOf]
theorem ev4 (A B : Int) : evalOf 4 A B = min A B := by simp [evalOf]
theorem ev5 (A B : Int) : evalOf 5 A B = max A B := by simp [evalOf]
theorem ev6 (A B : Int) : evalOf 6 A B = bit (decide (A < B)) := by simp [evalOf]
theorem ev7 (A B : Int) : evalOf 7 A B = bit (decide (A = B)) := by simp [evalOf]
section model
set_option maxRecDepth 100000 in
theorem spec_bit (b : Bool) (w : World) : Calls Tryz.prog 148 #[.bool b] w (Ret w (bit b)) := by
  cases b
  · go_enter Tryz.func148, Tryz.ntmps148
    go_wp2
    go_ret
    exact ⟨rfl, rfl⟩
  · go_enter Tryz.func148, Tryz.ntmps148
    go_wp2
    go_ret
    exact ⟨rfl, rfl⟩
set_option maxHeartbeats 1000000 in
set_option maxRecDepth 100000 in
theorem spec_eval (w : World) (ad : Option Addr) (n cap : Nat) (L : List Int) (h : Row w ad n L) (hv : varsOk L = true) (o a b : Int) (ho : 1 ≤ o ∧ o ≤ 7) (ha : opndOk a = true) (hb : opndOk b = true) :
    Calls Tryz.prog 145 #[.slice ad n cap, ev o a b] w (BelI w (evalOf o (valOf L a) (valOf L b))) := by
  have HR : Hid (∀ w' : World, Below w.heap.size w w' → Row w' ad n L) := fun w' hb => h.below hb
  have HV := Lib.hid hv
  clear h hv
  rcases (show o = 1 ∨ o = 2 ∨ o = 3 ∨ o = 4 ∨ o = 5 ∨ o = 6 ∨ o = 7 by omega) with rfl | rfl | rfl | rfl | rfl | rfl | rfl
  all_goals
    clear ho
    go_enter Tryz.func145, Tryz.ntmps145
    go_wp2_with (first
      | (go_at_call 185; refine (spec_value _ ad n cap L (HR.out _ ((Below.refl _ _).alloc (Nat.le_refl _) _)) HV.out _ (by assumption)).mono ?_; rintro e w1 ⟨rfl, rfl⟩)
      | (go_at_call 186; refine (spec_add _ _ _).mono ?_; rintro e w1 ⟨rfl, rfl⟩)
      | (go_at_call 187; refine (spec_sub _ _ _).mono ?_; rintro e w1 ⟨rfl, rfl⟩)
      | (go_at_call 188; refine (spec_mul _ _ _).mono ?_; rintro e w1 ⟨rfl, rfl⟩)
      | (go_at_call 148; refine (spec_bit _ _).mono ?_; rintro e w1 ⟨rfl, rfl⟩))
    all_goals
      go_ret
      refine ⟨ret_i ?_, (Below.refl _ _).alloc (Nat.le_refl _) _⟩
      first | exact (ev1 _ _).symm | exact (ev2 _ _).symm | exact (ev3 _ _).symm | exact (ev4 _ _).symm | exact (ev5 _ _).symm | exact (ev6 _ _).symm | exact (ev7 _ _).symm | (rw [ev4]; omega) | (rw [ev5]; omega)
end model

section program
set_option maxRecDepth 100000 in
theorem impl_one (b : Bool) (w : World) : Calls Tryz.prog 204 #[.bool b] w (Ret w (bit b)) := by
  cases b
  · go_enter Tryz.func204, Tryz.ntmps204
    go_wp2
    go_ret
    exact ⟨rfl, rfl⟩
  · go_enter Tryz.func204, Tryz.ntmps204
    go_wp2
    go_ret
    exact ⟨rfl, rfl⟩
set_option maxRecDepth 100000 in
theorem impl_min (x y : Int) (w : World) : Calls Tryz.prog 178 #[.int .i64 x, .int .i64 y] w (Ret w (min x y)) := by
  go_enter Tryz.func178, Tryz.ntmps178
  go_wp2
  all_goals
    go_ret
    exact ⟨ret_i (by omega), rfl⟩
set_option maxRecDepth 100000 in
theorem impl_max (x y : Int) (w : World) : Calls Tryz.prog 179 #[.int .i64 x, .int .i64 y] w (Ret w (max x y)) := by
  go_enter Tryz.func179, Tryz.ntmps179
  go_wp2
  all_goals
    go_ret
    exact ⟨ret_i (by omega), rfl⟩
set_option maxRecDepth 100000 in
theorem impl_less (x y : Int) (w : World) : Calls Tryz.prog 180 #[.int .i64 x, .int .i64 y] w (Ret w (bit (decide (x < y)))) := by
  go_enter Tryz.func180, Tryz.ntmps180
  go_wp2_with (go_at_call 204; refine (impl_one _ _).mono ?_; rintro e w1 ⟨rfl, rfl⟩)
  go_ret
  exact ⟨rfl, rfl⟩
set_option maxRecDepth 100000 in
theorem impl_same (x y : Int) (w : World) : Calls Tryz.prog 181 #[.int .i64 x, .int .i64 y] w (Ret w (bit (decide (x = y)))) := by
  go_enter Tryz.func181, Tryz.ntmps181
  go_wp2_with (go_at_call 204; refine (impl_one _ _).mono ?_; rintro e w1 ⟨rfl, rfl⟩)
  go_ret
  exact ⟨rfl, rfl⟩
abbrev opsV : Value := .agg #[.nilFunc, .func (.func 130) #[] #[], .func (.func 176) #[] #[], .func (.func 177) #[] #[],
  .func (.func 178) #[] #[], .func (.func 179) #[] #[], .func (.func 180) #[] #[], .func (.func 181) #[] #[]]
set_option maxRecDepth 100000 in
theorem impl_ops (w : World) : Calls Tryz.prog 141 #[] w fun e w' => e = .returned opsV ∧ Below w.heap.size w w' := by
  go_enter Tryz.func141, Tryz.ntmps141
  go_wp2
  refine bodyPost_ret (v := opsV) (by simp [results, Tryz.results141, go_sem]) rfl ⟨rfl, (Below.refl _ _).alloc (Nat.le_refl _) _⟩
end program
end Go.Proofs.YtcmhiadaebpgmaaGreatDoor.expr

/- The value of an expression is a value. Plain mathematics. -/
namespace Go.Proofs.YtcmhiadaebpgmaaGreatDoor.expr
open Go.ChangeShapes Go.WideShapes Go.ChangeAt Go.RowKit Go.Proofs.YtcmhiadaebpgmaaGreatDoor.row Go.Proofs.YtcmhiadaebpgmaaGreatDoor.val

theorem sat_val (n : Int) : isVal (sat n) = true := isVal_in (sat_bd n).1 (sat_bd n).2
theorem bit_val (b : Bool) : isVal (bit b) = true := by cases b <;> rfl
theorem valOf_val {L : List Int} (h : varsOk L = true) {m : Int} (hm : opndOk m = true) : isVal (valOf L m) = true := by
  have hb := (opndOk_iff m).1 hm
  unfold valOf
  split
  · rename_i h0
    obtain ⟨h1, _⟩ := opnd_at h hm h0
    rw [List.getD_eq_getElem?_getD, List.getElem?_eq_getElem h1]
    exact ((varsOk_iff L).1 h).2 _ (List.getElem_mem h1)
  · exact isVal_in (by omega) (by omega)
theorem evalOf_val {o A B : Int} (hA : isVal A = true) (hB : isVal B = true) : isVal (evalOf o A B) = true := by
  have a := (isVal_iff A).1 hA
  have b := (isVal_iff B).1 hB
  unfold evalOf
  split
  · exact sat_val _
  split
  · exact sat_val _
  split
  · exact sat_val _
  split
  · exact isVal_in (by omega) (by omega)
  split
  · exact isVal_in (by omega) (by omega)
  split
  · exact bit_val _
  · exact bit_val _
theorem evalV_val (L : List Int) (o a b : Int) : isVal (evalV L o a b) = true := by
  unfold evalV
  split
  · rename_i h
    rw [Bool.and_eq_true] at h
    obtain ⟨_, ha, hb⟩ := (exprOk_iff o a b).1 h.2
    exact evalOf_val (valOf_val h.1 ha) (valOf_val h.1 hb)
  · rfl
end Go.Proofs.YtcmhiadaebpgmaaGreatDoor.expr
