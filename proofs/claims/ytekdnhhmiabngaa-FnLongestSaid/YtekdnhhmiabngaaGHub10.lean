/- Several texts in one: RefA. -/
import Derived.Test.YtekdnhhmiabngaaGHub9

/- Reference runs: what RefRun and RefTasks must give; what the laws ask of it. Plain mathematics. -/
namespace Go.Proofs.Ytekdnhhmiabngaa.ref
open Go Go.Proofs.Ytekdnhhmiabngaa.stm Go.Proofs.Ytekdnhhmiabngaa.blk Go.Proofs.Ytekdnhhmiabngaa.expr Go.Proofs.Ytekdnhhmiabngaa.sets Go.Proofs.Ytekdnhhmiabngaa.val Go.Proofs.Ytekdnhhmiabngaa.prg Go.Proofs.Ytekdnhhmiabngaa.exe

/-- The state of a reference run: the variables, what has been sent, the next task. -/
structure Rf where
  (V S : List Int) (T : Int)
def zeroRf : Rf := ⟨[], [], 0⟩
/-- The outbox has room for 24 values. -/
def box (S M : List Int) : List Int := (S ++ M).take 24
theorem box_le (S M : List Int) : (box S M).length ≤ 24 := by unfold box; rw [List.length_take]; omega
theorem box_box (S M N : List Int) : box (box S M) N = box S (M ++ N) := by
  unfold box
  rw [← List.append_assoc]
  by_cases h : (S ++ M).length ≤ 24
  · rw [List.take_of_length_le h]
  · have e1 : (S ++ M ++ N).take 24 = (S ++ M).take 24 := List.take_append_of_le_length (by omega)
    have e2 : ((S ++ M).take 24 ++ N).take 24 = ((S ++ M).take 24).take 24 := List.take_append_of_le_length (by rw [List.length_take]; omega)
    rw [e1, e2, List.take_take, Nat.min_self]
theorem box_take (S M : List Int) : box S (M.take 24) = box S M := by
  unfold box
  rw [List.take_append, List.take_append, List.take_take]
  congr 2
  omega
theorem box_nil {S : List Int} (h : S.length ≤ 24) : box S [] = S := by unfold box; rw [List.append_nil, List.take_of_length_le h]
/-- A step of a reference run. -/
def StepR (P : List Tk) (u : List Int) (R R' : Rf) : Prop := ∃ E, EffIs P R.V u R.T true E ∧ R' = ⟨E.V, box R.S E.S, E.N⟩
inductive RunR (P : List Tk) : List (List Int) → Rf → Rf → Prop
  | nil (R : Rf) : RunR P [] R R
  | cons (u : List Int) (UU : List (List Int)) (R R1 R2 : Rf) (h : StepR P u R R1) (hr : RunR P UU R1 R2) : RunR P (u :: UU) R R2
inductive RunT (P : List Tk) : List (List Int) → List Int → Int → List Int → Prop
  | nil (V : List Int) (T : Int) : RunT P [] V T []
  | cons (u : List Int) (UU : List (List Int)) (V : List Int) (T : Int) (E : Eff) (L : List Int) (h : EffIs P V u T true E) (hr : RunT P UU E.V E.N L) : RunT P (u :: UU) V T (T :: L)
/-- The variables and the task of a state are valid. -/
def Sound (P : List Tk) (V : List Int) (i : Int) : Prop := IsPrg P ∧ varsOk V = true ∧ 0 ≤ i ∧ i < P.length
/-- The next effect exists and leaves a valid state. -/
theorem Sound.step {P : List Tk} {V u : List Int} {i : Int} (h : Sound P V i) (hu : allV u = true) : ∃ E, EffIs P V u i true E ∧ Sound P E.V E.N ∧ E.S.length ≤ 3000 := by
  obtain ⟨hp, hv, h0, h1⟩ := h
  obtain ⟨j, rfl⟩ : ∃ j : Nat, i = j := ⟨i.toNat, by omega⟩
  obtain ⟨t, T, ht, hT⟩ := taskAt_ex (j := j) hp hv hu (by omega)
  refine ⟨_, .inr ⟨rfl, t, T, hT, rfl⟩, ⟨hp, (hT.good (listSrc_val hu)).1, ?_⟩, ?_⟩
  · have := nx_range (v := evalV (exec (listSrc u) T ⟨V, [], []⟩).V t.o t.x t.y) (n := P.length) (by omega)
    exact this
  · have := hT.small (listSrc u); simp only [effOf]; omega
theorem EffIs.sound {P : List Tk} {V u : List Int} {i : Int} {E : Eff} (hE : EffIs P V u i true E) (h : Sound P V i) (hu : allV u = true) : Sound P E.V E.N ∧ E.S.length ≤ 3000 := by
  obtain ⟨E', h1, h2⟩ := h.step hu
  obtain ⟨_, rfl⟩ := hE.unique h1
  exact h2
theorem StepR.sound {P : List Tk} {u : List Int} {R R' : Rf} (h : StepR P u R R') (hR : Sound P R.V R.T) (hu : allV u = true) : Sound P R'.V R'.T ∧ R'.S.length ≤ 24 := by
  obtain ⟨E, hE, rfl⟩ := h
  exact ⟨(EffIs.sound hE hR hu).1, box_le _ _⟩
theorem StepR.unique {P : List Tk} {u : List Int} {R R1 R2 : Rf} (h1 : StepR P u R R1) (h2 : StepR P u R R2) : R1 = R2 := by
  obtain ⟨E, hE, rfl⟩ := h1
  obtain ⟨E', hE', rfl⟩ := h2
  obtain ⟨_, rfl⟩ := hE.unique hE'
  rfl
theorem runR_ex {P : List Tk} : ∀ (UU : List (List Int)) (R : Rf), Sound P R.V R.T → (∀ u ∈ UU, allV u = true) → ∃ R', RunR P UU R R'
  | [], R, _, _ => ⟨R, .nil R⟩
  | u :: UU, R, hR, hu => by
    obtain ⟨E, hE, hs, _⟩ := hR.step (hu u (by simp))
    obtain ⟨R', hR'⟩ := runR_ex UU ⟨E.V, box R.S E.S, E.N⟩ hs (fun v hv => hu v (by simp [hv]))
    exact ⟨R', .cons u UU R _ R' ⟨E, hE, rfl⟩ hR'⟩
theorem runT_ex {P : List Tk} : ∀ (UU : List (List Int)) (V : List Int) (i : Int), Sound P V i → (∀ u ∈ UU, allV u = true) → ∃ L, RunT P UU V i L
  | [], V, i, _, _ => ⟨[], .nil V i⟩
  | u :: UU, V, i, hR, hu => by
    obtain ⟨E, hE, hs, _⟩ := hR.step (hu u (by simp))
    obtain ⟨L, hL⟩ := runT_ex UU E.V E.N hs (fun v hv => hu v (by simp [hv]))
    exact ⟨_, .cons u UU V i E L hE hL⟩
theorem RunR.unique {P : List Tk} {UU : List (List Int)} {R R1 R2 : Rf} (h1 : RunR P UU R R1) (h2 : RunR P UU R R2) : R1 = R2 := by
  induction h1 with
  | nil R => cases h2; rfl
  | cons u UU R Ra Rb h hr ih =>
    cases h2 with
    | cons _ _ _ Rc _ h' hr' =>
      obtain rfl := h.unique h'
      exact ih hr'
theorem RunT.unique {P : List Tk} {UU : List (List Int)} {V : List Int} {i : Int} {L1 L2 : List Int} (h1 : RunT P UU V i L1) (h2 : RunT P UU V i L2) : L1 = L2 := by
  induction h1 generalizing L2 with
  | nil V i => cases h2; rfl
  | cons u UU V T E L h hr ih =>
    cases h2 with
    | cons _ _ _ _ E' L' h' hr' =>
      obtain ⟨_, rfl⟩ := h.unique h'
      rw [ih hr']
theorem RunR.sound {P : List Tk} {UU : List (List Int)} {R R' : Rf} (h : RunR P UU R R') : Sound P R.V R.T → (∀ u ∈ UU, allV u = true) → Sound P R'.V R'.T ∧ (R.S.length ≤ 24 → R'.S.length ≤ 24) := by
  induction h with
  | nil R => exact fun h _ => ⟨h, id⟩
  | cons u UU R Ra Rb h hr ih =>
    intro hR hu
    have h1 := h.sound hR (hu u (by simp))
    have h2 := ih h1.1 (fun v hv => hu v (by simp [hv]))
    exact ⟨h2.1, fun _ => h2.2 h1.2⟩
theorem RunT.len {P : List Tk} {UU : List (List Int)} {V : List Int} {i : Int} {L : List Int} (h : RunT P UU V i L) : L.length = UU.length := by
  induction h with
  | nil => rfl
  | cons _ _ _ _ _ _ _ _ ih => simp [ih]
/-- A run goes on where another one has stopped. -/
theorem RunR.snoc {P : List Tk} {UU : List (List Int)} {R R1 R2 : Rf} {u : List Int} (h : RunR P UU R R1) (hs : StepR P u R1 R2) : RunR P (UU ++ [u]) R R2 := by
  induction h with
  | nil R => exact .cons u [] R R2 R2 hs (.nil _)
  | cons v UU R Ra Rb h hr ih => exact .cons v _ R Ra R2 h (ih hs)
theorem RunR.append {P : List Tk} {A B : List (List Int)} {R R1 R2 : Rf} (h : RunR P A R R1) (hb : RunR P B R1 R2) : RunR P (A ++ B) R R2 := by
  induction h with
  | nil R => exact hb
  | cons u UU R Ra Rb h hr ih => exact .cons u _ R Ra R2 h (ih hb)
theorem RunT.snoc {P : List Tk} {UU : List (List Int)} {V : List Int} {i : Int} {L : List Int} {u : List Int} {R : Rf} {S : List Int} {E : Eff} (h : RunT P UU V i L) : RunR P UU ⟨V, S, i⟩ R → EffIs P R.V u R.T true E → RunT P (UU ++ [u]) V i (L ++ [R.T]) := by
  intro hR hE
  induction h generalizing S with
  | nil V i => cases hR; exact .cons u [] V i E [] hE (.nil _ _)
  | cons v UU V T E' L h hr ih =>
    cases hR with
    | cons _ _ _ Ra _ hs hr' =>
      obtain ⟨E2, hE2, rfl⟩ := hs
      obtain ⟨_, rfl⟩ := h.unique hE2
      exact .cons v _ V T E' _ h (ih hr')
/-- The outbox before a run does not change what it does, but for what is sent. -/
theorem RunR.other {P : List Tk} {UU : List (List Int)} {R R' : Rf} (h : RunR P UU R R') : ∀ (A B : List Int), A.length ≤ 24 → R.S = box A B → ∀ R2, RunR P UU ⟨R.V, box [] B, R.T⟩ R2 → R' = ⟨R2.V, box A R2.S, R2.T⟩ := by
  induction h with
  | nil R =>
    intro A B hA hS R2 h2
    cases h2
    obtain ⟨V, S, T⟩ := R
    simp only at hS
    show (⟨V, S, T⟩ : Rf) = ⟨V, box A (box [] B), T⟩
    rw [hS, show box [] B = B.take 24 by simp [box], box_take]
  | cons u UU R Ra Rb h hr ih =>
    intro A B hA hS R2 h2
    cases h2 with
    | cons _ _ _ Rc _ h' hr' =>
      obtain ⟨E, hE, rfl⟩ := h
      obtain ⟨E', hE', rfl⟩ := h'
      obtain ⟨_, rfl⟩ := hE.unique hE'
      refine ih A (B ++ E.S) hA (by simp only; rw [hS, box_box]) R2 ?_
      simp only [box_box] at hr'
      exact hr'
/-- A run as a whole and in two parts. -/
theorem parts {P : List Tk} {V : List Int} {i : Int} {UU : List (List Int)} {n : Nat} {A B C : Rf} (hA : RunR P UU ⟨V, [], i⟩ A) (hB : RunR P (UU.take n) ⟨V, [], i⟩ B) (hC : RunR P (UU.drop n) ⟨B.V, [], B.T⟩ C) (hBs : B.S.length ≤ 24) :
    A = ⟨C.V, box B.S C.S, C.T⟩ := by
  have hex : ∀ (U2 : List (List Int)) (R C' : Rf), RunR P U2 ⟨R.V, [], R.T⟩ C' → ∃ R2, RunR P U2 R R2 := by
    intro U2
    induction U2 with
    | nil => exact fun R _ _ => ⟨R, .nil R⟩
    | cons u U2 ih =>
      intro R C' h
      cases h with
      | cons _ _ _ Ra _ hs hr =>
        obtain ⟨E, hE, rfl⟩ := hs
        -- the rest with another outbox
        have hrest : ∃ C2, RunR P U2 ⟨E.V, [], E.N⟩ C2 := by
          have : ∀ (U3 : List (List Int)) (S : List Int) (V : List Int) (T : Int) (C3 : Rf), RunR P U3 ⟨V, S, T⟩ C3 → ∃ C4, RunR P U3 ⟨V, [], T⟩ C4 := by
            intro U3
            induction U3 with
            | nil => exact fun S V T _ _ => ⟨_, .nil _⟩
            | cons v U3 ih3 =>
              intro S V T C3 h3
              cases h3 with
              | cons _ _ _ Rb _ hs3 hr3 =>
                obtain ⟨E3, hE3, rfl⟩ := hs3
                have key : ∀ (U4 : List (List Int)) (S1 S2 V4 : List Int) (T4 : Int) (C5 : Rf), RunR P U4 ⟨V4, S1, T4⟩ C5 → ∃ C6, RunR P U4 ⟨V4, S2, T4⟩ C6 := by
                  intro U4
                  induction U4 with
                  | nil => exact fun S1 S2 V4 T4 _ _ => ⟨_, .nil _⟩
                  | cons v4 U4 ih4 =>
                    intro S1 S2 V4 T4 C5 h5
                    cases h5 with
                    | cons _ _ _ Rc _ hs5 hr5 =>
                      obtain ⟨E5, hE5, rfl⟩ := hs5
                      obtain ⟨C6, h6⟩ := ih4 _ (box S2 E5.S) _ _ _ hr5
                      exact ⟨C6, .cons v4 U4 _ _ C6 ⟨E5, hE5, rfl⟩ h6⟩
                obtain ⟨C6, h6⟩ := key U3 _ (box [] E3.S) _ _ _ hr3
                exact ⟨C6, .cons v U3 _ _ C6 ⟨E3, hE3, rfl⟩ h6⟩
          exact this U2 _ _ _ _ hr
        obtain ⟨C2, hC2⟩ := hrest
        obtain ⟨R2, hR2⟩ := ih ⟨E.V, box R.S E.S, E.N⟩ C2 hC2
        exact ⟨R2, .cons u U2 R _ R2 ⟨E, hE, rfl⟩ hR2⟩
  obtain ⟨A2, hA2⟩ := hex (UU.drop n) B C hC
  have h1 := hB.append hA2
  rw [List.take_append_drop] at h1
  obtain rfl := hA.unique h1
  refine hA2.other B.S [] hBs (box_nil hBs).symm C ?_
  exact hC
/-- The tasks of a run are those at which the shorter runs stop. -/
theorem tasks_at {P : List Tk} {UU : List (List Int)} {V : List Int} {i : Int} {L : List Int} (h : RunT P UU V i L) : ∀ {S : List Int} {k : Nat} {R : Rf}, k < UU.length → RunR P (UU.take k) ⟨V, S, i⟩ R → L[k]? = some R.T := by
  induction h with
  | nil V i => intro S k R hk; simp at hk
  | cons u UU V T E L h hr ih =>
    intro S k R hk hR
    cases k with
    | zero => rw [List.take_zero] at hR; cases hR; rfl
    | succ k =>
      rw [List.take_succ_cons] at hR
      cases hR with
      | cons _ _ _ Ra _ hs hr' =>
        obtain ⟨E', hE', rfl⟩ := hs
        obtain ⟨_, rfl⟩ := h.unique hE'
        rw [List.getElem?_cons_succ]
        exact ih (by simpa using hk) hr'
/-- The arguments of RefRun are valid. -/
def RefOk (P : List Tk) (V : List Int) (UU : List (List Int)) (i : Int) : Prop := Sound P V i ∧ UU.length ≤ 100 ∧ ∀ u ∈ UU, allV u = true
/-- What RefRun must give. -/
def RefIs (P : List Tk) (V : List Int) (UU : List (List Int)) (i : Int) (r : Bool) (R : Rf) : Prop :=
  (r = false ∧ R = zeroRf ∧ ¬ RefOk P V UU i) ∨ (r = true ∧ RefOk P V UU i ∧ RunR P UU ⟨V, [], i⟩ R)
theorem refIs_ex (P : List Tk) (V : List Int) (UU : List (List Int)) (i : Int) : ∃ r R, RefIs P V UU i r R := by
  rcases Classical.em (RefOk P V UU i) with h | h
  · obtain ⟨R, hR⟩ := runR_ex UU ⟨V, [], i⟩ h.1 h.2.2
    exact ⟨true, R, .inr ⟨rfl, h, hR⟩⟩
  · exact ⟨false, zeroRf, .inl ⟨rfl, rfl, h⟩⟩
theorem RefIs.size {P : List Tk} {V : List Int} {UU : List (List Int)} {i : Int} {r : Bool} {R : Rf} (h : RefIs P V UU i r R) : R.V.length ≤ 8 ∧ R.S.length ≤ 24 := by
  rcases h with ⟨_, rfl, _⟩ | ⟨_, h, hR⟩
  · simp [zeroRf]
  · have := hR.sound h.1 h.2.2
    refine ⟨?_, this.2 (by simp)⟩
    have := ((varsOk_iff R.V).1 this.1.2.1).1
    omega
/-- What RefTasks must give. -/
def TasksIs (P : List Tk) (V : List Int) (UU : List (List Int)) (i : Int) (L : List Int) : Prop :=
  (L = [] ∧ ¬ RefOk P V UU i) ∨ (RefOk P V UU i ∧ RunT P UU V i L)
theorem tasksIs_ex (P : List Tk) (V : List Int) (UU : List (List Int)) (i : Int) : ∃ L, TasksIs P V UU i L := by
  rcases Classical.em (RefOk P V UU i) with h | h
  · obtain ⟨L, hL⟩ := runT_ex UU V i h.1 h.2.2
    exact ⟨L, .inr ⟨h, hL⟩⟩
  · exact ⟨[], .inl ⟨rfl, h⟩⟩
theorem TasksIs.size {P : List Tk} {V : List Int} {UU : List (List Int)} {i : Int} {L : List Int} (h : TasksIs P V UU i L) : L.length ≤ 100 := by
  rcases h with ⟨rfl, _⟩ | ⟨h, hL⟩
  · simp
  · rw [hL.len]; exact h.2.1
/-- Are two references the same? -/
def sameRf (a b : Rf) : Bool := decide (a.V = b.V) && (decide (a.S = b.S) && decide (a.T = b.T))
theorem refOk_dec (P : List Tk) (V : List Int) (UU : List (List Int)) (i : Int) : ∃ r : Bool, r = true ↔ RefOk P V UU i := by
  rcases Classical.em (RefOk P V UU i) with h | h
  · exact ⟨true, by simp [h]⟩
  · exact ⟨false, by simp [h]⟩
end Go.Proofs.Ytekdnhhmiabngaa.ref
