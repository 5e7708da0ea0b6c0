/- Chapter 14, plain mathematics: steps: what they cost, the writes among them, how many of them an energy allows. -/
import Derived.Test.YtcmhiadaebpgmaaWtA
import Derived.Test.YtcmhiadaebpgmaaVal
namespace Go.Proofs.Ytcmhiadaebpgmaa.trc
open Go Go.Proofs.Ytcmhiadaebpgmaa.wrt

/-- A step: what it costs, the word that it writes or -1, the value. -/
structure Mic where
  (c a v : Int)
deriving DecidableEq
def kindT (k : Int) : Int := if k = 1 then 2 else if k = 2 then 5 else if k = 3 then 4 else if k = 4 then 1 else if k = 5 then 1 else 0
def stepM (k : Int) : Mic := ⟨kindT k, -1, 0⟩
def wrM (a v : Int) : Mic := ⟨3, a, v⟩
/-! All writes together. -/
def wrs (M : List Mic) : List Wt := (M.filter fun m => !decide (m.a = -1)).map fun m => ⟨m.a, m.v⟩
theorem wrs_app (M N : List Mic) : wrs (M ++ N) = wrs M ++ wrs N := by simp [wrs]
theorem wrs_step (k : Int) : wrs [stepM k] = [] := by simp [wrs, stepM]
theorem wrs_cons_step (k : Int) (M : List Mic) : wrs (stepM k :: M) = wrs M := by simp [wrs, stepM]
theorem wrs_wr {a v : Int} (h : 0 ≤ a) (M : List Mic) : wrs (wrM a v :: M) = ⟨a, v⟩ :: wrs M := by
  have : ¬ a = -1 := by omega
  simp [wrs, wrM, this]
theorem putAll_cons (W : List Int) (x : Wt) (L : List Wt) : putAll W (x :: L) = putAll (put1 W x) L := rfl
theorem putAll_nil (W : List Int) : putAll W [] = W := rfl
/-! Costs. -/
def CostOk (M : List Mic) : Prop := ∀ m ∈ M, 1 ≤ m.c ∧ m.c ≤ 5
theorem CostOk.app {M N : List Mic} (h : CostOk M) (k : CostOk N) : CostOk (M ++ N) := fun m hm => (List.mem_append.1 hm).elim (h m) (k m)
theorem kind_cost {k : Int} (h : 1 ≤ k) (h5 : k ≤ 5) : 1 ≤ kindT k ∧ kindT k ≤ 5 := by
  unfold kindT
  split
  · omega
  split
  · omega
  split
  · omega
  split
  · omega
  split <;> omega
theorem step_cost {k : Int} (h : 1 ≤ k) (h5 : k ≤ 5) : CostOk [stepM k] := fun m hm => by rw [List.mem_singleton.1 hm]; exact kind_cost h h5
theorem wr_cost {M : List Mic} (h : CostOk M) (a v : Int) : CostOk (wrM a v :: M) := fun m hm => by
  rcases List.mem_cons.1 hm with rfl | hm
  · simp [wrM]
  · exact h m hm
theorem nil_cost : CostOk [] := fun m hm => by cases hm
def csts (M : List Mic) : List Int := M.map (·.c)
/-- The sum of all costs as an int. -/
def costW (C : List Int) : Int := C.foldl (fun n c => IntKind.i64.wrap (n + c)) 0
/-- How many steps an energy allows behind steps that have cost 'a'. -/
def cntC (e : Int) : Int → List Int → Nat
  | _, [] => 0
  | a, c :: C => if a + c ≤ e then cntC e (a + c) C + 1 else 0
def cntE (C : List Int) (e : Int) : Nat := if e < 0 then 0 else cntC e 0 C
theorem cntC_le (e : Int) : ∀ (C : List Int) (a : Int), cntC e a C ≤ C.length
  | [], _ => by simp [cntC]
  | c :: C, a => by
    unfold cntC
    have := cntC_le e C (a + c)
    split <;> simp <;> omega
theorem cntC_mono {e e' : Int} (h : e ≤ e') : ∀ (C : List Int) (a : Int), cntC e a C ≤ cntC e' a C
  | [], _ => by simp [cntC]
  | c :: C, a => by
    unfold cntC
    have := cntC_mono h C (a + c)
    by_cases h1 : a + c ≤ e
    · rw [if_pos h1, if_pos (by omega)]; omega
    · rw [if_neg h1]; omega
theorem cntC_all {e : Int} : ∀ (C : List Int) (a : Int), (∀ c ∈ C, 0 ≤ c) → a + C.sum ≤ e → cntC e a C = C.length
  | [], _, _, _ => by simp [cntC]
  | c :: C, a, h, hs => by
    rw [List.sum_cons] at hs
    have h0 : 0 ≤ C.sum := sum_nonneg C (fun x hx => h x (by simp [hx]))
    unfold cntC
    have ih := cntC_all (e := e) C (a + c) (fun x hx => h x (by simp [hx])) (show a + c + C.sum ≤ e by omega)
    rw [if_pos (by omega), ih]
    rfl
where
  sum_nonneg : ∀ C : List Int, (∀ c ∈ C, 0 ≤ c) → 0 ≤ C.sum
    | [], _ => by simp
    | c :: C, h => by
      rw [List.sum_cons]
      have h1 := h c (by simp)
      have h2 := sum_nonneg C (fun x hx => h x (by simp [hx]))
      omega
theorem cntC_less {e : Int} : ∀ (C : List Int) (a : Int), C ≠ [] → e < a + C.sum → cntC e a C < C.length
  | [], _, h, _ => (h rfl).elim
  | c :: C, a, _, hs => by
    rw [List.sum_cons] at hs
    unfold cntC
    split
    · rename_i h1
      have hne : C ≠ [] := fun e0 => by subst e0; simp at hs; omega
      have := cntC_less (e := e) C (a + c) hne (by omega)
      simp; omega
    · simp
theorem sum_bounds : ∀ (C : List Int), (∀ c ∈ C, 1 ≤ c ∧ c ≤ 5) → (C.length : Int) ≤ C.sum ∧ C.sum ≤ 5 * C.length
  | [], _ => by simp
  | c :: C, h => by
    rw [List.sum_cons, List.length_cons]
    have h1 := h c (by simp)
    have h2 := sum_bounds C (fun x hx => h x (by simp [hx]))
    omega
theorem cost_sum {C : List Int} (h : ∀ c ∈ C, 1 ≤ c ∧ c ≤ 5) (hl : C.length ≤ 100000) : costW C = C.sum := by
  have key : ∀ (C : List Int) (a : Int), (∀ c ∈ C, 1 ≤ c ∧ c ≤ 5) → 0 ≤ a → a + 5 * C.length ≤ 1000000 → C.foldl (fun n c => IntKind.i64.wrap (n + c)) a = a + C.sum := by
    intro C
    induction C with
    | nil => intro a _ _ _; simp
    | cons c C ih =>
      intro a h h0 hb
      have h1 := h c (by simp)
      rw [List.length_cons] at hb
      rw [List.foldl_cons, IntWalk.i64_in _ (by omega), ih (a + c) (fun x hx => h x (by simp [hx])) (by omega) (by omega), List.sum_cons]
      omega
  have := key C 0 h (by omega) (by omega)
  simpa [costW] using this
/-- What the law of the counted steps asks. -/
theorem counted {C : List Int} (h : ∀ c ∈ C, 1 ≤ c ∧ c ≤ 5) (hl : C.length ≤ 100000) (hne : C ≠ []) (n : Int) :
    cntE C n ≤ cntE C (n + 1) ∧ cntE C (costW C) = C.length ∧ cntE C (costW C - 1) < C.length ∧ (n < costW C ∨ cntE C n = C.length) := by
  have hs := cost_sum h hl
  have hb := sum_bounds C h
  have hpos : 0 < C.length := by cases C; exact (hne rfl).elim; simp
  rw [hs]
  refine ⟨?_, ?_, ?_, ?_⟩
  · unfold cntE
    split
    · omega
    · rw [if_neg (by omega)]; exact cntC_mono (by omega) C 0
  · unfold cntE
    rw [if_neg (by omega)]
    exact cntC_all C 0 (fun c hc => by have := h c hc; omega) (by omega)
  · unfold cntE
    split
    · exact hpos
    · exact cntC_less C 0 hne (by omega)
  · by_cases hn : n < C.sum
    · exact .inl hn
    · right
      unfold cntE
      rw [if_neg (by omega)]
      exact cntC_all C 0 (fun c hc => by have := h c hc; omega) (by omega)
end Go.Proofs.Ytcmhiadaebpgmaa.trc
