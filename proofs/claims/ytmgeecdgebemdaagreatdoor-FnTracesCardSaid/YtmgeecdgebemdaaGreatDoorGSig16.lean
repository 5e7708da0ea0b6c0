/- Several texts in one: WtA TrcC Ctl. -/
import Derived.Test.YtmgeecdgebemdaaGreatDoorGSig2
import Derived.Lib.RowBridge
import Derived.Test.YtmgeecdgebemdaaGreatDoorGSig0
import Derived.Test.YtmgeecdgebemdaaGreatDoorGSig1
import Derived.OwnWalk

/- Chapter 10, plain mathematics: writes, what applying them makes of a row, the first place where two rows differ, and the places of a list of writes in ascending order, each once. -/
namespace Go.Proofs.YtmgeecdgebemdaaGreatDoor.wrt
open Go.Proofs.YtmgeecdgebemdaaGreatDoor.expr

/-- A write: the place, the value. -/
structure Wt where
  (p v : Int)
deriving DecidableEq

/-- The row behind one write. -/
def put1 (M : List Int) (x : Wt) : List Int := if 0 ≤ x.p ∧ x.p < M.length then M.set x.p.toNat x.v else M
theorem put1_in {M : List Int} {x : Wt} {k : Nat} (hk : x.p = k) (h : k < M.length) : put1 M x = M.set k x.v := by
  unfold put1; rw [if_pos ⟨by omega, by omega⟩, show x.p.toNat = k by omega]
theorem put1_out {M : List Int} {x : Wt} (h : ¬ (0 ≤ x.p ∧ x.p < M.length)) : put1 M x = M := by unfold put1; rw [if_neg h]
theorem put1_len (M : List Int) (x : Wt) : (put1 M x).length = M.length := by unfold put1; split <;> simp
/-- The row behind all these writes. -/
def putAll (M : List Int) (L : List Wt) : List Int := L.foldl put1 M
theorem putAll_len (L : List Wt) : ∀ M, (putAll M L).length = M.length := by
  induction L with
  | nil => intro M; rfl
  | cons x L ih => intro M; show (putAll (put1 M x) L).length = _; rw [ih, put1_len]
theorem putAll_snoc {M : List Int} {L : List Wt} {k : Nat} {x : Wt} (h : L[k]? = some x) : putAll M (L.take (k + 1)) = put1 (putAll M (L.take k)) x := by
  unfold putAll; rw [List.take_add_one, h]; simp
theorem putAll_app (M : List Int) (K L : List Wt) : putAll M (K ++ L) = putAll (putAll M K) L := by unfold putAll; rw [List.foldl_append]
/-- What ApplyWrites answers. -/
def appW (M : List Int) (L : List Wt) (c : Int) : List Int := putAll M (L.take c.toNat)
theorem appW_len (M : List Int) (L : List Wt) (c : Int) : (appW M L c).length = M.length := putAll_len _ _
theorem appW_all (M : List Int) (L : List Wt) {c : Int} (h : (L.length : Int) ≤ c) : appW M L c = putAll M L := by
  unfold appW; rw [List.take_of_length_le (by omega)]
theorem put1_other {M : List Int} {x : Wt} {k : Nat} (h : x.p ≠ k) : (put1 M x)[k]? = M[k]? := by
  unfold put1
  split
  · rw [List.getElem?_set_ne (by omega)]
  · rfl
theorem putAll_other {k : Nat} : ∀ (L : List Wt) (M : List Int), (∀ x ∈ L, x.p ≠ k) → (putAll M L)[k]? = M[k]?
  | [], _, _ => rfl
  | x :: L, M, h => by
    show (putAll (put1 M x) L)[k]? = _
    rw [putAll_other L (put1 M x) (fun y hy => h y (List.mem_cons_of_mem _ hy)), put1_other (h x (List.mem_cons_self ..))]

/-- 'r' is the first place where the rows differ, or -1. -/
def FdIs (A B : List Int) (r : Int) : Prop := (r = -1 ∧ A = B) ∨ ∃ k : Nat, r = k ∧ (∀ j, j < k → A[j]? = B[j]?) ∧ A[k]? ≠ B[k]?
theorem fd_ex (A B : List Int) : ∃ r, FdIs A B r := by
  induction A generalizing B with
  | nil =>
    cases B with
    | nil => exact ⟨-1, .inl ⟨rfl, rfl⟩⟩
    | cons b B => exact ⟨0, .inr ⟨0, rfl, fun j hj => absurd hj (by omega), by simp⟩⟩
  | cons a A ih =>
    cases B with
    | nil => exact ⟨0, .inr ⟨0, rfl, fun j hj => absurd hj (by omega), by simp⟩⟩
    | cons b B =>
      by_cases h : a = b
      · subst h
        obtain ⟨r, hr⟩ := ih B
        rcases hr with ⟨rfl, rfl⟩ | ⟨k, rfl, h1, h2⟩
        · exact ⟨-1, .inl ⟨rfl, rfl⟩⟩
        · refine ⟨((k + 1 : Nat) : Int), .inr ⟨k + 1, rfl, fun j hj => ?_, by simpa using h2⟩⟩
          cases j with
          | zero => rfl
          | succ j => simpa using h1 j (by omega)
      · exact ⟨0, .inr ⟨0, rfl, fun j hj => absurd hj (by omega), by simpa using h⟩⟩
theorem fd_at {A B : List Int} {r : Int} (h : FdIs A B r) {k : Nat} (h1 : ∀ j, j < k → A[j]? = B[j]?) (h2 : A[k]? ≠ B[k]?) : r = k := by
  rcases h with ⟨_, rfl⟩ | ⟨m, rfl, h3, h4⟩
  · exact absurd rfl h2
  · rcases Nat.lt_trichotomy k m with hl | hl | hl
    · exact absurd (h3 k hl) h2
    · rw [hl]
    · exact absurd (h1 m hl) h4
theorem fd_none {A B : List Int} {r : Int} (h : FdIs A B r) (h1 : A = B) : r = -1 := by
  rcases h with ⟨h, _⟩ | ⟨m, _, _, h4⟩
  · exact h
  · subst h1; exact absurd rfl h4
theorem fd_end {A B : List Int} {r : Int} (h : FdIs A B r) {k : Nat} (h1 : ∀ j, j < k → A[j]? = B[j]?) (h2 : A.length ≤ k) (h3 : B.length ≤ k) : r = -1 := by
  refine fd_none h (List.ext_getElem? fun j => ?_)
  by_cases hj : j < k
  · exact h1 j hj
  · rw [List.getElem?_eq_none (by omega), List.getElem?_eq_none (by omega)]
theorem fd_set {A : List Int} {k : Nat} {x y : Int} (hx : A[k]? = some x) (hy : y ≠ x) : FdIs A (A.set k y) k := by
  have hk := (List.getElem?_eq_some_iff.1 hx).1
  refine .inr ⟨k, rfl, fun j hj => by rw [List.getElem?_set_ne (by omega)], ?_⟩
  rw [hx, List.getElem?_set_self hk]; intro e; exact hy (Option.some.inj e).symm

/-- Strictly ascending. -/
abbrev Asc (L : List Int) : Prop := L.Pairwise (· < ·)
theorem asc_ext {K L : List Int} (h1 : Asc K) (h2 : Asc L) (h : ∀ x, x ∈ K ↔ x ∈ L) : K = L := by
  have n1 : K.Nodup := h1.imp (fun h => by omega)
  have n2 : L.Nodup := h2.imp (fun h => by omega)
  have hp : K.Perm L := (List.perm_ext_iff_of_nodup n1 n2).2 h
  exact List.Perm.eq_of_pairwise (le := (· < ·)) (fun a b _ _ h1 h2 => by omega) h1 h2 hp
theorem asc_at {L : List Int} (h : Asc L) {i j : Nat} (hij : i < j) {x y : Int} (hx : L[i]? = some x) (hy : L[j]? = some y) : x < y := by
  obtain ⟨h1, rfl⟩ := List.getElem?_eq_some_iff.1 hx
  obtain ⟨h2, rfl⟩ := List.getElem?_eq_some_iff.1 hy
  exact List.pairwise_iff_getElem.1 h i j h1 h2 hij
theorem compact_asc {L : List Int} (h : L.Pairwise (· ≤ ·)) : Asc (Lib.compact L) ∧ ∀ x, x ∈ Lib.compact L ↔ x ∈ L := by
  have hg : ∀ j, j < L.length → L.toArray[j]! = L.getD j 0 := fun j hj => by
    simp [List.getD_eq_getElem?_getD, hj]
  have key : ∀ m, m ≤ L.length → Asc (Lib.compactUpTo L.toArray m) ∧ (∀ x, x ∈ Lib.compactUpTo L.toArray m ↔ x ∈ L.take m) := by
    intro m
    induction m with
    | zero => intro _; simp [Lib.compactUpTo]
    | succ m ih =>
      intro hm
      obtain ⟨i1, i2⟩ := ih (by omega)
      have hmL : L[m]? = some (L.getD m 0) := by simp [List.getD_eq_getElem?_getD, show m < L.length by omega]
      have htk : L.take (m + 1) = L.take m ++ [L.getD m 0] := by rw [List.take_add_one, hmL]; rfl
      have hle : ∀ x ∈ L.take m, x ≤ L.getD m 0 := by
        intro x hx
        obtain ⟨i, hi, rfl⟩ := List.mem_iff_getElem.1 hx
        have hi' : i < m := by simp at hi; omega
        rw [List.getElem_take]
        have := List.pairwise_iff_getElem.1 h i m (by omega) (by omega) hi'
        simpa [List.getD_eq_getElem?_getD, show m < L.length by omega] using this
      rw [Lib.compactUpTo_succ, hg m (by omega)]
      by_cases hk : Lib.keeps L.toArray m = true
      · rw [if_pos hk]
        have hnew : ∀ x ∈ L.take m, x < L.getD m 0 := by
          intro x hx
          have hx1 := hle x hx
          rcases Int.lt_or_eq_of_le hx1 with hlt | heq
          · exact hlt
          · exfalso
            subst heq
            have hm0 : m ≠ 0 := by intro e; subst e; simp at hx
            have hne : L.toArray[m]! ≠ L.toArray[m - 1]! := by
              simp only [Lib.keeps, decide_eq_true_eq] at hk
              rcases hk with hk | hk
              · exact absurd hk hm0
              · exact hk
            rw [hg m (by omega), hg (m - 1) (by omega)] at hne
            obtain ⟨i, hi, hxi⟩ := List.mem_iff_getElem.1 hx
            have hi' : i < m := by simp at hi; omega
            rw [List.getElem_take] at hxi
            have h1 : L[i] ≤ L[m - 1] := by
              rcases Nat.lt_or_ge i (m - 1) with hl | hl
              · exact List.pairwise_iff_getElem.1 h i (m - 1) (by omega) (by omega) hl
              · have : i = m - 1 := by omega
                subst this; exact Int.le_refl _
            have h2 : L[m - 1] ≤ L[m] := List.pairwise_iff_getElem.1 h (m - 1) m (by omega) (by omega) (by omega)
            have e1 : L.getD m 0 = L[m] := by simp [List.getD_eq_getElem?_getD, show m < L.length by omega]
            have e2 : L.getD (m - 1) 0 = L[m - 1] := by simp [List.getD_eq_getElem?_getD, show m - 1 < L.length by omega]
            rw [e1, e2] at hne
            rw [e1] at hxi
            omega
        refine ⟨List.pairwise_append.2 ⟨i1, by simp, fun a ha b hb => ?_⟩, fun x => ?_⟩
        · rw [List.mem_singleton] at hb; subst hb
          exact hnew a ((i2 a).1 ha)
        · rw [htk, List.mem_append, List.mem_append, i2 x]
      · rw [if_neg hk, List.append_nil]
        refine ⟨i1, fun x => ?_⟩
        rw [htk, List.mem_append, i2 x]
        constructor
        · exact .inl
        · rintro (hx | hx)
          · exact hx
          · rw [List.mem_singleton] at hx; subst hx
            have hk' : ¬ (m = 0 ∨ L.toArray[m]! ≠ L.toArray[m - 1]!) := by simpa [Lib.keeps] using hk
            have hm0 : m ≠ 0 := fun e => hk' (.inl e)
            have he : L.toArray[m]! = L.toArray[m - 1]! := by
              by_cases he : L.toArray[m]! = L.toArray[m - 1]!
              · exact he
              · exact absurd (.inr he) hk'
            rw [hg m (by omega), hg (m - 1) (by omega)] at he
            rw [he]
            refine List.mem_iff_getElem.2 ⟨m - 1, by simp; omega, ?_⟩
            rw [List.getElem_take]
            simp [List.getD_eq_getElem?_getD, show m - 1 < L.length by omega]
  have := key L.length (Nat.le_refl _)
  rw [List.take_length] at this
  exact this
theorem srt_le (L : List Int) : (srt L).Pairwise (· ≤ ·) := by
  have h := List.pairwise_mergeSort (le := fun (x y : Int) => decide (x ≤ y)) (fun a b c h1 h2 => by simp only [decide_eq_true_eq] at *; omega) (fun a b => by simp only [Bool.or_eq_true, decide_eq_true_eq]; omega) L
  exact h.imp (fun h => by simpa using h)
/-- What TouchedWords answers. -/
def tch (L : List Wt) : List Int := Lib.compact (srt (L.map (·.p)))
theorem tch_asc (L : List Wt) : Asc (tch L) := (compact_asc (srt_le _)).1
theorem tch_mem {L : List Wt} {x : Int} : x ∈ tch L ↔ ∃ y ∈ L, y.p = x := by
  unfold tch
  rw [(compact_asc (srt_le _)).2, srt, List.mem_mergeSort, List.mem_map]
theorem tch_of {L : List Wt} {T : List Int} (h : Asc T) (hm : ∀ x, x ∈ T ↔ ∃ y ∈ L, y.p = x) : T = tch L :=
  asc_ext h (tch_asc L) (fun x => (hm x).trans tch_mem.symm)
theorem tch_len (L : List Wt) : (tch L).length ≤ L.length := by
  have h1 := Lib.compact_length_le (srt (L.map (·.p)))
  have h2 : (srt (L.map (·.p))).length = (L.map (·.p)).length := List.length_mergeSort _
  rw [h2, List.length_map] at h1
  exact h1
/-- A number is put in at its place. -/
theorem asc_ins {T : List Int} {k : Nat} {q : Int} (h : Asc T) (hk : k ≤ T.length) (hlo : ∀ i x, i < k → T[i]? = some x → x < q) (hhi : ∀ i x, k ≤ i → T[i]? = some x → q < x) : Asc (T.take k ++ (q :: T.drop k)) := by
  have hs : Asc (T.take k ++ T.drop k) := by rw [List.take_append_drop]; exact h
  obtain ⟨h1, h2, h3⟩ := List.pairwise_append.1 hs
  refine List.pairwise_append.2 ⟨h1, List.pairwise_cons.2 ⟨fun b hb => ?_, h2⟩, fun a ha b hb => ?_⟩
  · obtain ⟨i, hi, rfl⟩ := List.mem_iff_getElem.1 hb
    have hi' : k + i < T.length := by simp at hi; omega
    exact hhi (k + i) _ (by omega) (by rw [List.getElem_drop]; simp [hi'])
  · rcases List.mem_cons.1 hb with rfl | hb
    · obtain ⟨i, hi, rfl⟩ := List.mem_iff_getElem.1 ha
      have hi' : i < k ∧ i < T.length := by simp at hi; omega
      exact hlo i _ hi'.1 (by rw [List.getElem_take]; simp [hi'.2])
    · exact h3 a ha b hb
theorem mem_ins {T : List Int} {k : Nat} {q x : Int} : x ∈ T.take k ++ (q :: T.drop k) ↔ x ∈ T ∨ x = q := by
  have e : x ∈ T ↔ x ∈ T.take k ∨ x ∈ T.drop k := by rw [← List.mem_append, List.take_append_drop]
  rw [List.mem_append, List.mem_cons, e]
  constructor
  · rintro (h | h | h)
    · exact .inl (.inl h)
    · exact .inr h
    · exact .inl (.inr h)
  · rintro ((h | h) | h)
    · exact .inl h
    · exact .inr (.inr h)
    · exact .inr (.inl h)
theorem mem_take_succ {L : List Wt} {k : Nat} {s : Wt} (hs : L[k]? = some s) (x : Int) : (∃ y ∈ L.take (k + 1), y.p = x) ↔ (∃ y ∈ L.take k, y.p = x) ∨ x = s.p := by
  rw [List.take_add_one, hs]
  constructor
  · rintro ⟨y, hy, rfl⟩
    rcases List.mem_append.1 hy with h | h
    · exact .inl ⟨y, h, rfl⟩
    · simp at h; subst h; exact .inr rfl
  · rintro (⟨y, hy, rfl⟩ | rfl)
    · exact ⟨y, List.mem_append_left _ hy, rfl⟩
    · exact ⟨s, by simp, rfl⟩
end Go.Proofs.YtmgeecdgebemdaaGreatDoor.wrt

/- Chapter 14, plain mathematics: steps: what they cost, the writes among them, how many of them an energy allows. -/
namespace Go.Proofs.YtmgeecdgebemdaaGreatDoor.trc
open Go Go.Proofs.YtmgeecdgebemdaaGreatDoor.wrt

/-- A step: what it costs, the word that it writes or -1, the value. -/
structure Mic where
  (c a v : Int)
deriving DecidableEq
def kindT (k : Int) : Int := if k = 1 then 2 else if k = 2 then 5 else if k = 3 then 4 else if k = 4 then 1 else if k = 5 then 1 else 0
def stepM (k : Int) : Mic := ⟨kindT k, -1, 0⟩
def wrM (a v : Int) : Mic := ⟨3, a, v⟩
/-! All writes together. -/
def wrs (M : List Mic) : List Wt := (M.filter fun m => !decide (m.a = -1)).map fun m => ⟨m.a, m.v⟩
theorem wrs_app (M N : List Mic) : wrs (M ++ N) = wrs M ++ wrs N := by simp [wrs]
theorem wrs_step (k : Int) : wrs [stepM k] = [] := by simp [wrs, stepM]
theorem wrs_cons_step (k : Int) (M : List Mic) : wrs (stepM k :: M) = wrs M := by simp [wrs, stepM]
theorem wrs_wr {a v : Int} (h : 0 ≤ a) (M : List Mic) : wrs (wrM a v :: M) = ⟨a, v⟩ :: wrs M := by
  have : ¬ a = -1 := by omega
  simp [wrs, wrM, this]
theorem putAll_cons (W : List Int) (x : Wt) (L : List Wt) : putAll W (x :: L) = putAll (put1 W x) L := rfl
theorem putAll_nil (W : List Int) : putAll W [] = W := rfl
/-! Costs. -/
def CostOk (M : List Mic) : Prop := ∀ m ∈ M, 1 ≤ m.c ∧ m.c ≤ 5
theorem CostOk.app {M N : List Mic} (h : CostOk M) (k : CostOk N) : CostOk (M ++ N) := fun m hm => (List.mem_append.1 hm).elim (h m) (k m)
theorem kind_cost {k : Int} (h : 1 ≤ k) (h5 : k ≤ 5) : 1 ≤ kindT k ∧ kindT k ≤ 5 := by
  unfold kindT
  split
  · omega
  split
  · omega
  split
  · omega
  split
  · omega
  split <;> omega
theorem step_cost {k : Int} (h : 1 ≤ k) (h5 : k ≤ 5) : CostOk [stepM k] := fun m hm => by rw [List.mem_singleton.1 hm]; exact kind_cost h h5
theorem wr_cost {M : List Mic} (h : CostOk M) (a v : Int) : CostOk (wrM a v :: M) := fun m hm => by
  rcases List.mem_cons.1 hm with rfl | hm
  · simp [wrM]
  · exact h m hm
theorem nil_cost : CostOk [] := fun m hm => by cases hm
def csts (M : List Mic) : List Int := M.map (·.c)
/-- The sum of all costs as an int. -/
def costW (C : List Int) : Int := C.foldl (fun n c => IntKind.i64.wrap (n + c)) 0
/-- How many steps an energy allows behind steps that have cost 'a'. -/
def cntC (e : Int) : Int → List Int → Nat
  | _, [] => 0
  | a, c :: C => if a + c ≤ e then cntC e (a + c) C + 1 else 0
def cntE (C : List Int) (e : Int) : Nat := if e < 0 then 0 else cntC e 0 C
theorem cntC_le (e : Int) : ∀ (C : List Int) (a : Int), cntC e a C ≤ C.length
  | [], _ => by simp [cntC]
  | c :: C, a => by
    unfold cntC
    have := cntC_le e C (a + c)
    split <;> simp <;> omega
theorem cntC_mono {e e' : Int} (h : e ≤ e') : ∀ (C : List Int) (a : Int), cntC e a C ≤ cntC e' a C
  | [], _ => by simp [cntC]
  | c :: C, a => by
    unfold cntC
    have := cntC_mono h C (a + c)
    by_cases h1 : a + c ≤ e
    · rw [if_pos h1, if_pos (by omega)]; omega
    · rw [if_neg h1]; omega
theorem cntC_all {e : Int} : ∀ (C : List Int) (a : Int), (∀ c ∈ C, 0 ≤ c) → a + C.sum ≤ e → cntC e a C = C.length
  | [], _, _, _ => by simp [cntC]
  | c :: C, a, h, hs => by
    rw [List.sum_cons] at hs
    have h0 : 0 ≤ C.sum := sum_nonneg C (fun x hx => h x (by simp [hx]))
    unfold cntC
    have ih := cntC_all (e := e) C (a + c) (fun x hx => h x (by simp [hx])) (show a + c + C.sum ≤ e by omega)
    rw [if_pos (by omega), ih]
    rfl
where
  sum_nonneg : ∀ C : List Int, (∀ c ∈ C, 0 ≤ c) → 0 ≤ C.sum
    | [], _ => by simp
    | c :: C, h => by
      rw [List.sum_cons]
      have h1 := h c (by simp)
      have h2 := sum_nonneg C (fun x hx => h x (by simp [hx]))
      omega
theorem cntC_less {e : Int} : ∀ (C : List Int) (a : Int), C ≠ [] → e < a + C.sum → cntC e a C < C.length
  | [], _, h, _ => (h rfl).elim
  | c :: C, a, _, hs => by
    rw [List.sum_cons] at hs
    unfold cntC
    split
    · rename_i h1
      have hne : C ≠ [] := fun e0 => by subst e0; simp at hs; omega
      have := cntC_less (e := e) C (a + c) hne (by omega)
      simp; omega
    · simp
theorem sum_bounds : ∀ (C : List Int), (∀ c ∈ C, 1 ≤ c ∧ c ≤ 5) → (C.length : Int) ≤ C.sum ∧ C.sum ≤ 5 * C.length
  | [], _ => by simp
  | c :: C, h => by
    rw [List.sum_cons, List.length_cons]
    have h1 := h c (by simp)
    have h2 := sum_bounds C (fun x hx => h x (by simp [hx]))
    omega
theorem cost_sum {C : List Int} (h : ∀ c ∈ C, 1 ≤ c ∧ c ≤ 5) (hl : C.length ≤ 100000) : costW C = C.sum := by
  have key : ∀ (C : List Int) (a : Int), (∀ c ∈ C, 1 ≤ c ∧ c ≤ 5) → 0 ≤ a → a + 5 * C.length ≤ 1000000 → C.foldl (fun n c => IntKind.i64.wrap (n + c)) a = a + C.sum := by
    intro C
    induction C with
    | nil => intro a _ _ _; simp
    | cons c C ih =>
      intro a h h0 hb
      have h1 := h c (by simp)
      rw [List.length_cons] at hb
      rw [List.foldl_cons, IntWalk.i64_in _ (by omega), ih (a + c) (fun x hx => h x (by simp [hx])) (by omega) (by omega), List.sum_cons]
      omega
  have := key C 0 h (by omega) (by omega)
  simpa [costW] using this
/-- What the law of the counted steps asks. -/
theorem counted {C : List Int} (h : ∀ c ∈ C, 1 ≤ c ∧ c ≤ 5) (hl : C.length ≤ 100000) (hne : C ≠ []) (n : Int) :
    cntE C n ≤ cntE C (n + 1) ∧ cntE C (costW C) = C.length ∧ cntE C (costW C - 1) < C.length ∧ (n < costW C ∨ cntE C n = C.length) := by
  have hs := cost_sum h hl
  have hb := sum_bounds C h
  have hpos : 0 < C.length := by cases C; exact (hne rfl).elim; simp
  rw [hs]
  refine ⟨?_, ?_, ?_, ?_⟩
  · unfold cntE
    split
    · omega
    · rw [if_neg (by omega)]; exact cntC_mono (by omega) C 0
  · unfold cntE
    rw [if_neg (by omega)]
    exact cntC_all C 0 (fun c hc => by have := h c hc; omega) (by omega)
  · unfold cntE
    split
    · exact hpos
    · exact cntC_less C 0 hne (by omega)
  · by_cases hn : n < C.sum
    · exact .inl hn
    · right
      unfold cntE
      rw [if_neg (by omega)]
      exact cntC_all C 0 (fun c hc => by have := h c hc; omega) (by omega)
end Go.Proofs.YtmgeecdgebemdaaGreatDoor.trc

/- Chapter 9's control word: what packing and unpacking return, of the model and of the program; nothing is written; no condition but that the word is an int. -/
namespace Go.Proofs.YtmgeecdgebemdaaGreatDoor.ctl
open Go.ChangeShapes Go.WideShapes Go.ChangeAt Go.RowKit Go.Proofs.YtmgeecdgebemdaaGreatDoor.row Go.Proofs.YtmgeecdgebemdaaGreatDoor.val Go.Proofs.YtmgeecdgebemdaaGreatDoor.expr

def ctlOk (t c n : Int) : Bool := decide (0 ≤ t ∧ t ≤ 5 ∧ 0 ≤ c ∧ c ≤ 8 ∧ 0 ≤ n ∧ n ≤ 24)
theorem ctlOk_iff (t c n : Int) : ctlOk t c n = true ↔ 0 ≤ t ∧ t ≤ 5 ∧ 0 ≤ c ∧ c ≤ 8 ∧ 0 ≤ n ∧ n ≤ 24 := by simp [ctlOk]
theorem ctlOk_no {t c n : Int} (h : ¬ (0 ≤ t ∧ t ≤ 5 ∧ 0 ≤ c ∧ c ≤ 8 ∧ 0 ≤ n ∧ n ≤ 24)) : ctlOk t c n = false := by
  rw [← Bool.not_eq_true, ctlOk_iff]; exact h
def packV (t c n : Int) : Int := if ctlOk t c n then t + 8 * (c + 16 * n) else -1
theorem packV_yes {t c n : Int} (h : ctlOk t c n = true) : packV t c n = t + 8 * (c + 16 * n) := if_pos h
theorem packV_no {t c n : Int} (h : ctlOk t c n = false) : packV t c n = -1 := if_neg (by rw [h]; decide)
def wT (w : Int) : Int := w.tmod 8
def wC (w : Int) : Int := (w.tdiv 8).tmod 16
def wN (w : Int) : Int := (w.tdiv 8).tdiv 16
def wOk (w : Int) : Bool := ctlOk (wT w) (wC w) (wN w)
def unT (w : Int) : Int := if wOk w then wT w else -1
def unC (w : Int) : Int := if wOk w then wC w else -1
def unN (w : Int) : Int := if wOk w then wN w else -1
theorem parts_pos {w : Int} (h : 0 ≤ w) : wT w = w % 8 ∧ wC w = w / 8 % 16 ∧ wN w = w / 128 := by
  have e : w.tdiv 8 = w / 8 := Int.tdiv_eq_ediv_of_nonneg h
  have h2 : 0 ≤ w / 8 := by omega
  unfold wT wC wN
  rw [e, Int.tmod_eq_emod_of_nonneg h, Int.tmod_eq_emod_of_nonneg h2, Int.tdiv_eq_ediv_of_nonneg h2]
  omega
theorem parts_neg {w : Int} (h : w < 0) : wOk w = false := by
  have h1 : w.tmod 8 = -((-w) % 8) := by
    have := Int.neg_tmod (a := -w) (b := 8); rw [Int.neg_neg] at this; rw [this, Int.tmod_eq_emod_of_nonneg (by omega)]
  have h2 : w.tdiv 8 = -((-w) / 8) := by
    have := Int.neg_tdiv (a := -w) (b := 8); rw [Int.neg_neg] at this; rw [this, Int.tdiv_eq_ediv_of_nonneg (by omega)]
  have h3 : (w.tdiv 8).tmod 16 = -(((-w) / 8) % 16) := by
    rw [h2, Int.neg_tmod, Int.tmod_eq_emod_of_nonneg (by omega)]
  have h4 : (w.tdiv 8).tdiv 16 = -(((-w) / 8) / 16) := by
    rw [h2, Int.neg_tdiv, Int.tdiv_eq_ediv_of_nonneg (by omega)]
  apply ctlOk_no
  unfold wT wC wN
  rw [h1, h3, h4]
  omega
theorem wOk_pos {w : Int} (h : wOk w = true) : 0 ≤ w := by
  by_cases hw : w < 0
  · rw [parts_neg hw] at h; cases h
  · omega
theorem pack_parts {w : Int} (h : wOk w = true) : wT w + 8 * (wC w + 16 * wN w) = w ∧ 0 ≤ w ∧ w ≤ 3141 := by
  have h0 := wOk_pos h
  obtain ⟨e1, e2, e3⟩ := parts_pos h0
  have hb := (ctlOk_iff _ _ _).1 h
  rw [e1, e2, e3] at *
  omega
theorem parts_pack {t c n : Int} (h : ctlOk t c n = true) : wT (packV t c n) = t ∧ wC (packV t c n) = c ∧ wN (packV t c n) = n := by
  have hb := (ctlOk_iff _ _ _).1 h
  rw [packV_yes h]
  obtain ⟨e1, e2, e3⟩ := parts_pos (w := t + 8 * (c + 16 * n)) (by omega)
  rw [e1, e2, e3]
  omega
theorem unT_bd (w : Int) : -1 ≤ unT w ∧ unT w ≤ 5 := by
  unfold unT; split
  · rename_i h; have hb := (ctlOk_iff _ _ _).1 h; omega
  · omega
theorem unC_bd (w : Int) : -1 ≤ unC w ∧ unC w ≤ 8 := by
  unfold unC; split
  · rename_i h; have hb := (ctlOk_iff _ _ _).1 h; omega
  · omega
theorem unN_bd (w : Int) : -1 ≤ unN w ∧ unN w ≤ 24 := by
  unfold unN; split
  · rename_i h; have hb := (ctlOk_iff _ _ _).1 h; omega
  · omega

/-- The three parts of a word. -/
abbrev tri (x y z : Int) : Value := .tuple #[.int .i64 x, .int .i64 y, .int .i64 z]
def RetT (w : World) (x y z : Int) (e : Ending) (w' : World) : Prop := e = .returned (tri x y z) ∧ w = w'
theorem bd8 (w : Int) : -7 ≤ w.tmod 8 ∧ w.tmod 8 ≤ 7 := by
  have := Int.tmod_lt_of_pos w (show (0 : Int) < 8 by decide)
  have := Int.lt_tmod_of_pos w (show (0 : Int) < 8 by decide)
  omega
theorem bd16 (w : Int) : -15 ≤ w.tmod 16 ∧ w.tmod 16 ≤ 15 := by
  have := Int.tmod_lt_of_pos w (show (0 : Int) < 16 by decide)
  have := Int.lt_tmod_of_pos w (show (0 : Int) < 16 by decide)
  omega
theorem bdq (w : Int) (d : Nat) (hw : -9223372036854775808 ≤ w ∧ w ≤ 9223372036854775807) (hd : 2 ≤ d) : -9223372036854775808 ≤ w.tdiv d ∧ w.tdiv d ≤ 9223372036854775807 := by
  have h1 : (w.tdiv d).natAbs = w.natAbs / d := by rw [Int.natAbs_tdiv]; rfl
  have h2 : w.natAbs / d ≤ w.natAbs / 2 := Nat.div_le_div_left hd (by decide)
  omega

set_option maxRecDepth 100000 in
theorem spec_pack (t c n : Int) (w : World) : Calls Tryz.prog 53 #[.int .i64 t, .int .i64 c, .int .i64 n] w (Ret w (packV t c n)) := by
  cases h1 : (decide (0 ≤ t) && decide (t ≤ 5))
  · have HP := Lib.hid (packV_no (t := t) (c := c) (n := n) (ctlOk_no (by simp at h1; omega)))
    have H1 := Lib.hid h1
    clear h1
    go_enter Tryz.func53, Tryz.ntmps53
    go_wp2_with (go_at_call 63; refine (in_any _ _ _ _ H1.out _).mono ?_; rintro e w1 ⟨rfl, rfl⟩)
    go_ret
    exact ⟨ret_i HP.out.symm, rfl⟩
  · cases h2 : (decide (0 ≤ c) && decide (c ≤ 8))
    · have HP := Lib.hid (packV_no (t := t) (c := c) (n := n) (ctlOk_no (by simp at h2; omega)))
      have H1 := Lib.hid h1
      have H2 := Lib.hid h2
      clear h1 h2
      go_enter Tryz.func53, Tryz.ntmps53
      go_wp2_with (go_at_call 63; refine (in_any _ _ _ _ (by first | exact H1.out | exact H2.out) _).mono ?_; rintro e w1 ⟨rfl, rfl⟩)
      go_ret
      exact ⟨ret_i HP.out.symm, rfl⟩
    · cases h3 : (decide (0 ≤ n) && decide (n ≤ 24))
      · have HP := Lib.hid (packV_no (t := t) (c := c) (n := n) (ctlOk_no (by simp at h3; omega)))
        have H1 := Lib.hid h1
        have H2 := Lib.hid h2
        have H3 := Lib.hid h3
        clear h1 h2 h3
        go_enter Tryz.func53, Tryz.ntmps53
        go_wp2_with (go_at_call 63; refine (in_any _ _ _ _ (by first | exact H1.out | exact H2.out | exact H3.out) _).mono ?_; rintro e w1 ⟨rfl, rfl⟩)
        go_ret
        exact ⟨ret_i HP.out.symm, rfl⟩
      · have HB := (show (0 ≤ t ∧ t ≤ 5) ∧ (0 ≤ c ∧ c ≤ 8) ∧ (0 ≤ n ∧ n ≤ 24) by simp at h1 h2 h3; omega)
        obtain ⟨⟨b1, b2⟩, ⟨b3, b4⟩, b5, b6⟩ := HB
        have HP := Lib.hid (packV_yes (t := t) (c := c) (n := n) ((ctlOk_iff _ _ _).2 (by omega)))
        have H1 := Lib.hid h1
        have H2 := Lib.hid h2
        have H3 := Lib.hid h3
        clear h1 h2 h3
        go_enter Tryz.func53, Tryz.ntmps53
        go_wp2_with (go_at_call 63; refine (in_any _ _ _ _ (by first | exact H1.out | exact H2.out | exact H3.out) _).mono ?_; rintro e w1 ⟨rfl, rfl⟩)
        go_ret
        exact ⟨ret_i HP.out.symm, rfl⟩
set_option maxRecDepth 100000 in
theorem impl_ctlok (t c n : Int) (r : Bool) (hr : ctlOk t c n = r) (w : World) : Calls Tryz.prog 95 #[.int .i64 t, .int .i64 c, .int .i64 n] w (RetB w r) := by
  subst hr
  by_cases h1 : 0 ≤ t
  case neg =>
    rw [ctlOk_no (by omega)]
    go_enter Tryz.func95, Tryz.ntmps95
    go_wp2
    go_ret
    exact ⟨rfl, rfl⟩
  by_cases h2 : t < 6
  case neg =>
    rw [ctlOk_no (by omega)]
    go_enter Tryz.func95, Tryz.ntmps95
    go_wp2
    go_ret
    exact ⟨rfl, rfl⟩
  by_cases h3 : 0 ≤ c
  case neg =>
    rw [ctlOk_no (by omega)]
    go_enter Tryz.func95, Tryz.ntmps95
    go_wp2
    go_ret
    exact ⟨rfl, rfl⟩
  by_cases h4 : c ≤ 8
  case neg =>
    rw [ctlOk_no (by omega)]
    go_enter Tryz.func95, Tryz.ntmps95
    go_wp2
    go_ret
    exact ⟨rfl, rfl⟩
  by_cases h5 : 0 ≤ n
  case neg =>
    rw [ctlOk_no (by omega)]
    go_enter Tryz.func95, Tryz.ntmps95
    go_wp2
    go_ret
    exact ⟨rfl, rfl⟩
  have HB : Hid (ctlOk t c n = decide (n ≤ 24)) := by
    show ctlOk t c n = decide (n ≤ 24)
    by_cases h6 : n ≤ 24
    · rw [(ctlOk_iff _ _ _).2 (by omega), decide_eq_true h6]
    · rw [ctlOk_no (by omega), decide_eq_false h6]
  go_enter Tryz.func95, Tryz.ntmps95
  go_wp2
  go_ret
  exact ⟨by rw [HB.out]; rfl, rfl⟩
set_option maxRecDepth 100000 in
theorem impl_pack (t c n : Int) (w : World) : Calls Tryz.prog 118 #[.int .i64 t, .int .i64 c, .int .i64 n] w (Ret w (packV t c n)) := by
  cases h : ctlOk t c n
  · have HP := Lib.hid (packV_no h)
    have HC := Lib.hid h
    clear h
    go_enter Tryz.func118, Tryz.ntmps118
    go_wp2_with (go_at_call 95; refine (impl_ctlok _ _ _ _ HC.out _).mono ?_; rintro e w1 ⟨rfl, rfl⟩)
    go_ret
    exact ⟨ret_i HP.out.symm, rfl⟩
  · have HP := Lib.hid (packV_yes h)
    obtain ⟨b1, b2, b3, b4, b5, b6⟩ := (ctlOk_iff _ _ _).1 h
    have HC := Lib.hid h
    clear h
    go_enter Tryz.func118, Tryz.ntmps118
    go_wp2_with (go_at_call 95; refine (impl_ctlok _ _ _ _ HC.out _).mono ?_; rintro e w1 ⟨rfl, rfl⟩)
    go_ret
    exact ⟨ret_i HP.out.symm, rfl⟩
set_option maxRecDepth 100000 in
theorem impl_unpack (x : Int) (hw : -9223372036854775808 ≤ x ∧ x ≤ 9223372036854775807) (w : World) : Calls Tryz.prog 36 #[.int .i64 x] w (RetT w (unT x) (unC x) (unN x)) := by
  have hq := bdq x 8 hw (by decide)
  have hd := bdq _ 16 hq (by decide)
  have h8 := bd8 x
  have h16 := bd16 (x.tdiv 8)
  obtain ⟨q, eq⟩ : ∃ q, x.tdiv 8 = q := ⟨_, rfl⟩
  obtain ⟨a, ea⟩ : ∃ a, x.tmod 8 = a := ⟨_, rfl⟩
  rw [show x.tdiv (8 : Nat) = q from eq] at hq hd
  rw [eq] at h16
  rw [ea] at h8
  obtain ⟨c, ec⟩ : ∃ c, q.tmod 16 = c := ⟨_, rfl⟩
  obtain ⟨d, ed⟩ : ∃ d, q.tdiv 16 = d := ⟨_, rfl⟩
  rw [show q.tdiv (16 : Nat) = d from ed] at hd
  rw [ec] at h16
  cases h : wOk x
  · have HT := Lib.hid (show unT x = -1 ∧ unC x = -1 ∧ unN x = -1 by simp [unT, unC, unN, h])
    have HC := Lib.hid (show ctlOk a c d = false by rw [← h]; unfold wOk wT wC wN; rw [eq, ea, ec, ed])
    clear h
    go_enter Tryz.func36, Tryz.ntmps36
    go_wp2_with (go_at_call 95; refine (impl_ctlok _ _ _ _ HC.out _).mono ?_; rintro e w1 ⟨rfl, rfl⟩)
    go_ret3
    exact ⟨by rw [HT.out.1, HT.out.2.1, HT.out.2.2]; rfl, rfl⟩
  · have HT := Lib.hid (show unT x = a ∧ unC x = c ∧ unN x = d by simp only [unT, unC, unN, h, if_true]; unfold wT wC wN; rw [eq, ea, ec, ed]; exact ⟨rfl, rfl, rfl⟩)
    have HC := Lib.hid (show ctlOk a c d = true by rw [← h]; unfold wOk wT wC wN; rw [eq, ea, ec, ed])
    clear h
    go_enter Tryz.func36, Tryz.ntmps36
    go_wp2_with (go_at_call 95; refine (impl_ctlok _ _ _ _ HC.out _).mono ?_; rintro e w1 ⟨rfl, rfl⟩)
    go_ret3
    exact ⟨by rw [HT.out.1, HT.out.2.1, HT.out.2.2]; rfl, rfl⟩
theorem impl_unpack_is (x p q r : Int) (hw : -9223372036854775808 ≤ x ∧ x ≤ 9223372036854775807) (h : unT x = p ∧ unC x = q ∧ unN x = r) (w : World) : Calls Tryz.prog 36 #[.int .i64 x] w (RetT w p q r) := by
  obtain ⟨rfl, rfl, rfl⟩ := h; exact impl_unpack x hw w
set_option maxRecDepth 100000 in
theorem spec_unpack (x : Int) (w : World) : Calls Tryz.prog 30 #[.int .i64 x] w (RetT w (unT x) (unC x) (unN x)) := by
  by_cases hr : x < 0 ∨ 100000 < x
  · have hno : wOk x = false := by
      rcases hr with h | h
      · exact parts_neg h
      · rw [← Bool.not_eq_true]; intro h2; have := pack_parts h2; omega
    have HT := Lib.hid (show unT x = -1 ∧ unC x = -1 ∧ unN x = -1 by simp [unT, unC, unN, hno])
    clear hno
    rcases hr with h | h
    all_goals
      go_enter Tryz.func30, Tryz.ntmps30
      go_wp2
      go_ret3
      exact ⟨by rw [HT.out.1, HT.out.2.1, HT.out.2.2]; rfl, rfl⟩
  · have h0 : 0 ≤ x := by omega
    have h1 : x ≤ 100000 := by omega
    clear hr
    obtain ⟨p1, p2, p3⟩ := parts_pos h0
    have e8 : x.tmod 8 = x % 8 := Int.tmod_eq_emod_of_nonneg h0
    have d8 : x.tdiv 8 = x / 8 := Int.tdiv_eq_ediv_of_nonneg h0
    have d128 : x.tdiv 128 = x / 128 := Int.tdiv_eq_ediv_of_nonneg h0
    have e16 : (x / 8).tmod 16 = x / 8 % 16 := Int.tmod_eq_emod_of_nonneg (by omega)
    have b1 : 0 ≤ x % 8 ∧ x % 8 ≤ 7 := by omega
    have b2 : 0 ≤ x / 8 ∧ x / 8 ≤ 12500 := by omega
    have b3 : 0 ≤ x / 8 % 16 ∧ x / 8 % 16 ≤ 15 := by omega
    have b4 : 0 ≤ x / 128 ∧ x / 128 ≤ 1000 := by omega
    cases h : wOk x
    · have HT := Lib.hid (show unT x = -1 ∧ unC x = -1 ∧ unN x = -1 by simp [unT, unC, unN, h])
      have HP := Lib.hid (show packV (x % 8) (x / 8 % 16) (x / 128) = -1 from packV_no (by rw [← p1, ← p2, ← p3]; exact h))
      have hne : ¬ x = -1 := by omega
      clear h p1 p2 p3
      go_enter Tryz.func30, Tryz.ntmps30
      go_wp2_with (go_at_call 53; refine (spec_pack _ _ _ _).mono ?_; rw [HP.out]; rintro e w1 ⟨rfl, rfl⟩)
      go_ret3
      exact ⟨by rw [HT.out.1, HT.out.2.1, HT.out.2.2]; rfl, rfl⟩
    · have HT := Lib.hid (show unT x = x % 8 ∧ unC x = x / 8 % 16 ∧ unN x = x / 128 by simp only [unT, unC, unN, h, if_true]; exact ⟨p1, p2, p3⟩)
      have HP := Lib.hid (show packV (x % 8) (x / 8 % 16) (x / 128) = x by rw [packV_yes (by rw [← p1, ← p2, ← p3]; exact h), ← p1, ← p2, ← p3]; exact (pack_parts h).1)
      clear h p1 p2 p3
      go_enter Tryz.func30, Tryz.ntmps30
      go_wp2_with (go_at_call 53; refine (spec_pack _ _ _ _).mono ?_; rw [HP.out]; rintro e w1 ⟨rfl, rfl⟩)
      go_ret3
      exact ⟨by rw [HT.out.1, HT.out.2.1, HT.out.2.2]; rfl, rfl⟩
theorem spec_unpack_is (x p q r : Int) (h : unT x = p ∧ unC x = q ∧ unN x = r) (w : World) : Calls Tryz.prog 30 #[.int .i64 x] w (RetT w p q r) := by
  obtain ⟨rfl, rfl, rfl⟩ := h; exact spec_unpack x w
theorem un_no {x : Int} (h : wOk x = false) : unT x = -1 ∧ unC x = -1 ∧ unN x = -1 := by simp [unT, unC, unN, h]
theorem un_yes {x : Int} (h : wOk x = true) : ∃ t c n : Nat, t ≤ 5 ∧ c ≤ 8 ∧ n ≤ 24 ∧ unT x = t ∧ unC x = c ∧ unN x = n := by
  have hb := (ctlOk_iff _ _ _).1 h
  refine ⟨(wT x).toNat, (wC x).toNat, (wN x).toNat, by omega, by omega, by omega, ?_, ?_, ?_⟩
  · simp only [unT, h, if_true]; omega
  · simp only [unC, h, if_true]; omega
  · simp only [unN, h, if_true]; omega
end Go.Proofs.YtmgeecdgebemdaaGreatDoor.ctl
