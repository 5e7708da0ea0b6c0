/- Several texts in one: RefA RefP RefM. -/
import Derived.Test.YtekdnhhmiabngaaGreatGHub9
import Derived.Test.YtekdnhhmiabngaaGreatGHub26
import Derived.Test.YtekdnhhmiabngaaGreatGHub12

/- Reference runs: what RefRun and RefTasks must give; what the laws ask of it. Plain mathematics. -/
namespace Go.Proofs.YtekdnhhmiabngaaGreat.ref
open Go Go.Proofs.YtekdnhhmiabngaaGreat.stm Go.Proofs.YtekdnhhmiabngaaGreat.blk Go.Proofs.YtekdnhhmiabngaaGreat.expr Go.Proofs.YtekdnhhmiabngaaGreat.sets Go.Proofs.YtekdnhhmiabngaaGreat.val Go.Proofs.YtekdnhhmiabngaaGreat.prg Go.Proofs.YtekdnhhmiabngaaGreat.exe

/-- The state of a reference run: the variables, what has been sent, the next task. -/
structure Rf where
  (V S : List Int) (T : Int)
def zeroRf : Rf := ⟨[], [], 0⟩
/-- The outbox has room for 24 values. -/
def box (S M : List Int) : List Int := (S ++ M).take 24
theorem box_le (S M : List Int) : (box S M).length ≤ 24 := by unfold box; rw [List.length_take]; omega
theorem box_box (S M N : List Int) : box (box S M) N = box S (M ++ N) := by
  unfold box
  rw [← List.append_assoc]
  by_cases h : (S ++ M).length ≤ 24
  · rw [List.take_of_length_le h]
  · have e1 : (S ++ M ++ N).take 24 = (S ++ M).take 24 := List.take_append_of_le_length (by omega)
    have e2 : ((S ++ M).take 24 ++ N).take 24 = ((S ++ M).take 24).take 24 := List.take_append_of_le_length (by rw [List.length_take]; omega)
    rw [e1, e2, List.take_take, Nat.min_self]
theorem box_take (S M : List Int) : box S (M.take 24) = box S M := by
  unfold box
  rw [List.take_append, List.take_append, List.take_take]
  congr 2
  omega
theorem box_nil {S : List Int} (h : S.length ≤ 24) : box S [] = S := by unfold box; rw [List.append_nil, List.take_of_length_le h]
/-- A step of a reference run. -/
def StepR (P : List Tk) (u : List Int) (R R' : Rf) : Prop := ∃ E, EffIs P R.V u R.T true E ∧ R' = ⟨E.V, box R.S E.S, E.N⟩
inductive RunR (P : List Tk) : List (List Int) → Rf → Rf → Prop
  | nil (R : Rf) : RunR P [] R R
  | cons (u : List Int) (UU : List (List Int)) (R R1 R2 : Rf) (h : StepR P u R R1) (hr : RunR P UU R1 R2) : RunR P (u :: UU) R R2
inductive RunT (P : List Tk) : List (List Int) → List Int → Int → List Int → Prop
  | nil (V : List Int) (T : Int) : RunT P [] V T []
  | cons (u : List Int) (UU : List (List Int)) (V : List Int) (T : Int) (E : Eff) (L : List Int) (h : EffIs P V u T true E) (hr : RunT P UU E.V E.N L) : RunT P (u :: UU) V T (T :: L)
/-- The variables and the task of a state are valid. -/
def Sound (P : List Tk) (V : List Int) (i : Int) : Prop := IsPrg P ∧ varsOk V = true ∧ 0 ≤ i ∧ i < P.length
/-- The next effect exists and leaves a valid state. -/
theorem Sound.step {P : List Tk} {V u : List Int} {i : Int} (h : Sound P V i) (hu : allV u = true) : ∃ E, EffIs P V u i true E ∧ Sound P E.V E.N ∧ E.S.length ≤ 3000 := by
  obtain ⟨hp, hv, h0, h1⟩ := h
  obtain ⟨j, rfl⟩ : ∃ j : Nat, i = j := ⟨i.toNat, by omega⟩
  obtain ⟨t, T, ht, hT⟩ := taskAt_ex (j := j) hp hv hu (by omega)
  refine ⟨_, .inr ⟨rfl, t, T, hT, rfl⟩, ⟨hp, (hT.good (listSrc_val hu)).1, ?_⟩, ?_⟩
  · have := nx_range (v := evalV (exec (listSrc u) T ⟨V, [], []⟩).V t.o t.x t.y) (n := P.length) (by omega)
    exact this
  · have := hT.small (listSrc u); simp only [effOf]; omega
theorem EffIs.sound {P : List Tk} {V u : List Int} {i : Int} {E : Eff} (hE : EffIs P V u i true E) (h : Sound P V i) (hu : allV u = true) : Sound P E.V E.N ∧ E.S.length ≤ 3000 := by
  obtain ⟨E', h1, h2⟩ := h.step hu
  obtain ⟨_, rfl⟩ := hE.unique h1
  exact h2
theorem StepR.sound {P : List Tk} {u : List Int} {R R' : Rf} (h : StepR P u R R') (hR : Sound P R.V R.T) (hu : allV u = true) : Sound P R'.V R'.T ∧ R'.S.length ≤ 24 := by
  obtain ⟨E, hE, rfl⟩ := h
  exact ⟨(EffIs.sound hE hR hu).1, box_le _ _⟩
theorem StepR.unique {P : List Tk} {u : List Int} {R R1 R2 : Rf} (h1 : StepR P u R R1) (h2 : StepR P u R R2) : R1 = R2 := by
  obtain ⟨E, hE, rfl⟩ := h1
  obtain ⟨E', hE', rfl⟩ := h2
  obtain ⟨_, rfl⟩ := hE.unique hE'
  rfl
theorem runR_ex {P : List Tk} : ∀ (UU : List (List Int)) (R : Rf), Sound P R.V R.T → (∀ u ∈ UU, allV u = true) → ∃ R', RunR P UU R R'
  | [], R, _, _ => ⟨R, .nil R⟩
  | u :: UU, R, hR, hu => by
    obtain ⟨E, hE, hs, _⟩ := hR.step (hu u (by simp))
    obtain ⟨R', hR'⟩ := runR_ex UU ⟨E.V, box R.S E.S, E.N⟩ hs (fun v hv => hu v (by simp [hv]))
    exact ⟨R', .cons u UU R _ R' ⟨E, hE, rfl⟩ hR'⟩
theorem runT_ex {P : List Tk} : ∀ (UU : List (List Int)) (V : List Int) (i : Int), Sound P V i → (∀ u ∈ UU, allV u = true) → ∃ L, RunT P UU V i L
  | [], V, i, _, _ => ⟨[], .nil V i⟩
  | u :: UU, V, i, hR, hu => by
    obtain ⟨E, hE, hs, _⟩ := hR.step (hu u (by simp))
    obtain ⟨L, hL⟩ := runT_ex UU E.V E.N hs (fun v hv => hu v (by simp [hv]))
    exact ⟨_, .cons u UU V i E L hE hL⟩
theorem RunR.unique {P : List Tk} {UU : List (List Int)} {R R1 R2 : Rf} (h1 : RunR P UU R R1) (h2 : RunR P UU R R2) : R1 = R2 := by
  induction h1 with
  | nil R => cases h2; rfl
  | cons u UU R Ra Rb h hr ih =>
    cases h2 with
    | cons _ _ _ Rc _ h' hr' =>
      obtain rfl := h.unique h'
      exact ih hr'
theorem RunT.unique {P : List Tk} {UU : List (List Int)} {V : List Int} {i : Int} {L1 L2 : List Int} (h1 : RunT P UU V i L1) (h2 : RunT P UU V i L2) : L1 = L2 := by
  induction h1 generalizing L2 with
  | nil V i => cases h2; rfl
  | cons u UU V T E L h hr ih =>
    cases h2 with
    | cons _ _ _ _ E' L' h' hr' =>
      obtain ⟨_, rfl⟩ := h.unique h'
      rw [ih hr']
theorem RunR.sound {P : List Tk} {UU : List (List Int)} {R R' : Rf} (h : RunR P UU R R') : Sound P R.V R.T → (∀ u ∈ UU, allV u = true) → Sound P R'.V R'.T ∧ (R.S.length ≤ 24 → R'.S.length ≤ 24) := by
  induction h with
  | nil R => exact fun h _ => ⟨h, id⟩
  | cons u UU R Ra Rb h hr ih =>
    intro hR hu
    have h1 := h.sound hR (hu u (by simp))
    have h2 := ih h1.1 (fun v hv => hu v (by simp [hv]))
    exact ⟨h2.1, fun _ => h2.2 h1.2⟩
theorem RunT.len {P : List Tk} {UU : List (List Int)} {V : List Int} {i : Int} {L : List Int} (h : RunT P UU V i L) : L.length = UU.length := by
  induction h with
  | nil => rfl
  | cons _ _ _ _ _ _ _ _ ih => simp [ih]
/-- A run goes on where another one has stopped. -/
theorem RunR.snoc {P : List Tk} {UU : List (List Int)} {R R1 R2 : Rf} {u : List Int} (h : RunR P UU R R1) (hs : StepR P u R1 R2) : RunR P (UU ++ [u]) R R2 := by
  induction h with
  | nil R => exact .cons u [] R R2 R2 hs (.nil _)
  | cons v UU R Ra Rb h hr ih => exact .cons v _ R Ra R2 h (ih hs)
theorem RunR.append {P : List Tk} {A B : List (List Int)} {R R1 R2 : Rf} (h : RunR P A R R1) (hb : RunR P B R1 R2) : RunR P (A ++ B) R R2 := by
  induction h with
  | nil R => exact hb
  | cons u UU R Ra Rb h hr ih => exact .cons u _ R Ra R2 h (ih hb)
theorem RunT.snoc {P : List Tk} {UU : List (List Int)} {V : List Int} {i : Int} {L : List Int} {u : List Int} {R : Rf} {S : List Int} {E : Eff} (h : RunT P UU V i L) : RunR P UU ⟨V, S, i⟩ R → EffIs P R.V u R.T true E → RunT P (UU ++ [u]) V i (L ++ [R.T]) := by
  intro hR hE
  induction h generalizing S with
  | nil V i => cases hR; exact .cons u [] V i E [] hE (.nil _ _)
  | cons v UU V T E' L h hr ih =>
    cases hR with
    | cons _ _ _ Ra _ hs hr' =>
      obtain ⟨E2, hE2, rfl⟩ := hs
      obtain ⟨_, rfl⟩ := h.unique hE2
      exact .cons v _ V T E' _ h (ih hr')
/-- The outbox before a run does not change what it does, but for what is sent. -/
theorem RunR.other {P : List Tk} {UU : List (List Int)} {R R' : Rf} (h : RunR P UU R R') : ∀ (A B : List Int), A.length ≤ 24 → R.S = box A B → ∀ R2, RunR P UU ⟨R.V, box [] B, R.T⟩ R2 → R' = ⟨R2.V, box A R2.S, R2.T⟩ := by
  induction h with
  | nil R =>
    intro A B hA hS R2 h2
    cases h2
    obtain ⟨V, S, T⟩ := R
    simp only at hS
    show (⟨V, S, T⟩ : Rf) = ⟨V, box A (box [] B), T⟩
    rw [hS, show box [] B = B.take 24 by simp [box], box_take]
  | cons u UU R Ra Rb h hr ih =>
    intro A B hA hS R2 h2
    cases h2 with
    | cons _ _ _ Rc _ h' hr' =>
      obtain ⟨E, hE, rfl⟩ := h
      obtain ⟨E', hE', rfl⟩ := h'
      obtain ⟨_, rfl⟩ := hE.unique hE'
      refine ih A (B ++ E.S) hA (by simp only; rw [hS, box_box]) R2 ?_
      simp only [box_box] at hr'
      exact hr'
/-- A run as a whole and in two parts. -/
theorem parts {P : List Tk} {V : List Int} {i : Int} {UU : List (List Int)} {n : Nat} {A B C : Rf} (hA : RunR P UU ⟨V, [], i⟩ A) (hB : RunR P (UU.take n) ⟨V, [], i⟩ B) (hC : RunR P (UU.drop n) ⟨B.V, [], B.T⟩ C) (hBs : B.S.length ≤ 24) :
    A = ⟨C.V, box B.S C.S, C.T⟩ := by
  have hex : ∀ (U2 : List (List Int)) (R C' : Rf), RunR P U2 ⟨R.V, [], R.T⟩ C' → ∃ R2, RunR P U2 R R2 := by
    intro U2
    induction U2 with
    | nil => exact fun R _ _ => ⟨R, .nil R⟩
    | cons u U2 ih =>
      intro R C' h
      cases h with
      | cons _ _ _ Ra _ hs hr =>
        obtain ⟨E, hE, rfl⟩ := hs
        -- the rest with another outbox
        have hrest : ∃ C2, RunR P U2 ⟨E.V, [], E.N⟩ C2 := by
          have : ∀ (U3 : List (List Int)) (S : List Int) (V : List Int) (T : Int) (C3 : Rf), RunR P U3 ⟨V, S, T⟩ C3 → ∃ C4, RunR P U3 ⟨V, [], T⟩ C4 := by
            intro U3
            induction U3 with
            | nil => exact fun S V T _ _ => ⟨_, .nil _⟩
            | cons v U3 ih3 =>
              intro S V T C3 h3
              cases h3 with
              | cons _ _ _ Rb _ hs3 hr3 =>
                obtain ⟨E3, hE3, rfl⟩ := hs3
                have key : ∀ (U4 : List (List Int)) (S1 S2 V4 : List Int) (T4 : Int) (C5 : Rf), RunR P U4 ⟨V4, S1, T4⟩ C5 → ∃ C6, RunR P U4 ⟨V4, S2, T4⟩ C6 := by
                  intro U4
                  induction U4 with
                  | nil => exact fun S1 S2 V4 T4 _ _ => ⟨_, .nil _⟩
                  | cons v4 U4 ih4 =>
                    intro S1 S2 V4 T4 C5 h5
                    cases h5 with
                    | cons _ _ _ Rc _ hs5 hr5 =>
                      obtain ⟨E5, hE5, rfl⟩ := hs5
                      obtain ⟨C6, h6⟩ := ih4 _ (box S2 E5.S) _ _ _ hr5
                      exact ⟨C6, .cons v4 U4 _ _ C6 ⟨E5, hE5, rfl⟩ h6⟩
                obtain ⟨C6, h6⟩ := key U3 _ (box [] E3.S) _ _ _ hr3
                exact ⟨C6, .cons v U3 _ _ C6 ⟨E3, hE3, rfl⟩ h6⟩
          exact this U2 _ _ _ _ hr
        obtain ⟨C2, hC2⟩ := hrest
        obtain ⟨R2, hR2⟩ := ih ⟨E.V, box R.S E.S, E.N⟩ C2 hC2
        exact ⟨R2, .cons u U2 R _ R2 ⟨E, hE, rfl⟩ hR2⟩
  obtain ⟨A2, hA2⟩ := hex (UU.drop n) B C hC
  have h1 := hB.append hA2
  rw [List.take_append_drop] at h1
  obtain rfl := hA.unique h1
  refine hA2.other B.S [] hBs (box_nil hBs).symm C ?_
  exact hC
/-- The tasks of a run are those at which the shorter runs stop. -/
theorem tasks_at {P : List Tk} {UU : List (List Int)} {V : List Int} {i : Int} {L : List Int} (h : RunT P UU V i L) : ∀ {S : List Int} {k : Nat} {R : Rf}, k < UU.length → RunR P (UU.take k) ⟨V, S, i⟩ R → L[k]? = some R.T := by
  induction h with
  | nil V i => intro S k R hk; simp at hk
  | cons u UU V T E L h hr ih =>
    intro S k R hk hR
    cases k with
    | zero => rw [List.take_zero] at hR; cases hR; rfl
    | succ k =>
      rw [List.take_succ_cons] at hR
      cases hR with
      | cons _ _ _ Ra _ hs hr' =>
        obtain ⟨E', hE', rfl⟩ := hs
        obtain ⟨_, rfl⟩ := h.unique hE'
        rw [List.getElem?_cons_succ]
        exact ih (by simpa using hk) hr'
/-- The arguments of RefRun are valid. -/
def RefOk (P : List Tk) (V : List Int) (UU : List (List Int)) (i : Int) : Prop := Sound P V i ∧ UU.length ≤ 100 ∧ ∀ u ∈ UU, allV u = true
/-- What RefRun must give. -/
def RefIs (P : List Tk) (V : List Int) (UU : List (List Int)) (i : Int) (r : Bool) (R : Rf) : Prop :=
  (r = false ∧ R = zeroRf ∧ ¬ RefOk P V UU i) ∨ (r = true ∧ RefOk P V UU i ∧ RunR P UU ⟨V, [], i⟩ R)
theorem refIs_ex (P : List Tk) (V : List Int) (UU : List (List Int)) (i : Int) : ∃ r R, RefIs P V UU i r R := by
  rcases Classical.em (RefOk P V UU i) with h | h
  · obtain ⟨R, hR⟩ := runR_ex UU ⟨V, [], i⟩ h.1 h.2.2
    exact ⟨true, R, .inr ⟨rfl, h, hR⟩⟩
  · exact ⟨false, zeroRf, .inl ⟨rfl, rfl, h⟩⟩
theorem RefIs.size {P : List Tk} {V : List Int} {UU : List (List Int)} {i : Int} {r : Bool} {R : Rf} (h : RefIs P V UU i r R) : R.V.length ≤ 8 ∧ R.S.length ≤ 24 := by
  rcases h with ⟨_, rfl, _⟩ | ⟨_, h, hR⟩
  · simp [zeroRf]
  · have := hR.sound h.1 h.2.2
    refine ⟨?_, this.2 (by simp)⟩
    have := ((varsOk_iff R.V).1 this.1.2.1).1
    omega
/-- What RefTasks must give. -/
def TasksIs (P : List Tk) (V : List Int) (UU : List (List Int)) (i : Int) (L : List Int) : Prop :=
  (L = [] ∧ ¬ RefOk P V UU i) ∨ (RefOk P V UU i ∧ RunT P UU V i L)
theorem tasksIs_ex (P : List Tk) (V : List Int) (UU : List (List Int)) (i : Int) : ∃ L, TasksIs P V UU i L := by
  rcases Classical.em (RefOk P V UU i) with h | h
  · obtain ⟨L, hL⟩ := runT_ex UU V i h.1 h.2.2
    exact ⟨L, .inr ⟨h, hL⟩⟩
  · exact ⟨[], .inl ⟨rfl, h⟩⟩
theorem TasksIs.size {P : List Tk} {V : List Int} {UU : List (List Int)} {i : Int} {L : List Int} (h : TasksIs P V UU i L) : L.length ≤ 100 := by
  rcases h with ⟨rfl, _⟩ | ⟨h, hL⟩
  · simp
  · rw [hL.len]; exact h.2.1
/-- Are two references the same? -/
def sameRf (a b : Rf) : Bool := decide (a.V = b.V) && (decide (a.S = b.S) && decide (a.T = b.T))
theorem refOk_dec (P : List Tk) (V : List Int) (UU : List (List Int)) (i : Int) : ∃ r : Bool, r = true ↔ RefOk P V UU i := by
  rcases Classical.em (RefOk P V UU i) with h | h
  · exact ⟨true, by simp [h]⟩
  · exact ⟨false, by simp [h]⟩
end Go.Proofs.YtekdnhhmiabngaaGreat.ref

/- A reference as a value, and in new memory; what the program's RefRun, RefTasks and SameRef are to give: the shapes of their contracts. -/
namespace Go.Proofs.YtekdnhhmiabngaaGreat.ref
open Go Go.ChangeShapes Go.WideShapes Go.ChangeAt Go.RowKit Go.Proofs.YtekdnhhmiabngaaGreat.row Go.Proofs.YtekdnhhmiabngaaGreat.val Go.Proofs.YtekdnhhmiabngaaGreat.expr Go.Proofs.YtekdnhhmiabngaaGreat.stm Go.Proofs.YtekdnhhmiabngaaGreat.blk Go.Proofs.YtekdnhhmiabngaaGreat.prg Go.Proofs.YtekdnhhmiabngaaGreat.exe Go.Proofs.YtekdnhhmiabngaaGreat.srow

abbrev refV (a1 : Option Addr) (n1 c1 : Nat) (a2 : Option Addr) (n2 c2 : Nat) (R : Rf) : Value := .agg #[.slice a1 n1 c1, .slice a2 n2 c2, .int .i64 R.T]
/-- The reference in new memory. -/
def RefMem (B : Nat) (a1 : Option Addr) (n1 c1 : Nat) (a2 : Option Addr) (n2 c2 : Nat) (R : Rf) (w' : World) : Prop :=
  w'.ownsRow B 3 1 (.slice a1 n1 c1) n1 (ivs R.V) ∧ w'.ownsRow B 3 1 (.slice a2 n2 c2) n2 (ivs R.S) ∧ ((Value.slice a1 n1 c1).ownBlock = none ∨ (Value.slice a1 n1 c1).ownBlock ≠ (Value.slice a2 n2 c2).ownBlock)
def NewRef (w : World) (R : Rf) (e : Ending) (w' : World) : Prop :=
  ∃ a1 n1 c1 a2 n2 c2, e = .returned (refV a1 n1 c1 a2 n2 c2 R) ∧ RefMem w.heap.size a1 n1 c1 a2 n2 c2 R w' ∧ Below w.heap.size w w'
def NewRefB (w : World) (r : Bool) (R : Rf) (e : Ending) (w' : World) : Prop :=
  ∃ a1 n1 c1 a2 n2 c2, e = .returned (.tuple #[refV a1 n1 c1 a2 n2 c2 R, .bool r]) ∧ RefMem w.heap.size a1 n1 c1 a2 n2 c2 R w' ∧ Below w.heap.size w w'
abbrev zero3R : Array Value := #[.slice none 0 0, .slice none 0 0, .int .i64 0]
abbrev RrC : Prop := ∀ (a : Option Addr) (n cap : Nat) (P : List Tk) (_ : Sizes P) (_ : n ≤ cap) (w : World) (_ : TkRow w a n P) (ad : Option Addr) (nv cv : Nat) (V : List Int) (_ : (nv : Int) ≤ 1048576) (_ : nv ≤ cv) (_ : Row w ad nv V) (au : Option Addr) (nu cu : Nat) (UU : List (List Int)) (_ : SSizes UU) (_ : nu ≤ cu) (_ : SRow w au nu UU)
    (i : Int) (r : Bool) (R : Rf) (_ : RefIs P V UU i r R), Calls Tryz.prog 41 #[.agg #[.slice a n cap], .int .i64 i, .slice ad nv cv, .slice au nu cu] w (NewRefB w r R)
abbrev RtC : Prop := ∀ (a : Option Addr) (n cap : Nat) (P : List Tk) (_ : Sizes P) (_ : n ≤ cap) (w : World) (_ : TkRow w a n P) (ad : Option Addr) (nv cv : Nat) (V : List Int) (_ : (nv : Int) ≤ 1048576) (_ : nv ≤ cv) (_ : Row w ad nv V) (au : Option Addr) (nu cu : Nat) (UU : List (List Int)) (_ : SSizes UU) (_ : nu ≤ cu) (_ : SRow w au nu UU)
    (i : Int) (L : List Int) (_ : TasksIs P V UU i L), Calls Tryz.prog 48 #[.agg #[.slice a n cap], .int .i64 i, .slice ad nv cv, .slice au nu cu] w (NewInts w L)
end Go.Proofs.YtekdnhhmiabngaaGreat.ref

/- Chapter 13 of the model: whether the arguments of a reference run are valid; the outbox; nothing else that was there is written. -/
namespace Go.Proofs.YtekdnhhmiabngaaGreat.ref
open Go Go.ChangeShapes Go.WideShapes Go.ChangeAt Go.RowKit Go.Proofs.YtekdnhhmiabngaaGreat.row Go.Proofs.YtekdnhhmiabngaaGreat.val Go.Proofs.YtekdnhhmiabngaaGreat.expr Go.Proofs.YtekdnhhmiabngaaGreat.stm Go.Proofs.YtekdnhhmiabngaaGreat.blk Go.Proofs.YtekdnhhmiabngaaGreat.prg Go.Proofs.YtekdnhhmiabngaaGreat.exe Go.Proofs.YtekdnhhmiabngaaGreat.srow
set_option maxHeartbeats 4000000 in
set_option maxRecDepth 100000 in
theorem spec_refok (a : Option Addr) (n cap : Nat) (P : List Tk) (hz : Sizes P) (w : World) (h : TkRow w a n P) (ad : Option Addr) (nv cv : Nat) (V : List Int) (hnv : (nv : Int) ≤ 1048576) (hV : Row w ad nv V) (au : Option Addr) (nu cu : Nat) (UU : List (List Int)) (hsz : SSizes UU) (hU : SRow w au nu UU)
    (i : Int) (r : Bool) (hr : r = true ↔ RefOk P V UU i) :
    Calls Tryz.prog 80 #[.agg #[.slice a n cap], .int .i64 i, .slice ad nv cv, .slice au nu cu] w (BelB w r) := by
  obtain ⟨W, hW⟩ : ∃ W, w.alloc (.cells #[.slice a n cap] 26) = W := ⟨_, rfl⟩
  have hBW : Below w.heap.size w W := by rw [← hW]; exact below_new w _
  have hpx : Box w.heap.size #[.slice a n cap] 26 W := by rw [← hW]; exact Box.new w _ _
  have hWl : w.heap.size < W.heap.size := hpx.lt
  have c0 : W.cell? ⟨w.heap.size, 0, none⟩ = some (.slice a n cap) := hpx.cell 0
  have hlen := h.1
  have HW := Lib.hid hW
  have HZ := Lib.hid (And.intro hz hsz)
  have H0 := Lib.hid (And.intro hpx (And.intro hBW (And.intro (h.below hBW) (And.intro (hV.below hBW) (hU.below hBW)))))
  have hul := hU.1
  have hn : (n : Int) ≤ 1048576 := by have := hz.1; omega
  have hnu : (nu : Int) ≤ 1048576 := by have := hsz.1; omega
  have HR := Lib.hid hr
  clear hpx hBW h hV hU hz hsz hW hr
  obtain ⟨rp, hrp⟩ := prg_dec P
  have HRP := Lib.hid hrp
  cases rp
  · obtain rfl : r = false := by
      rw [← Bool.not_eq_true]; intro e
      have := hrp.2 (HR.out.1 e).1.1; cases this
    clear hrp
    go_enter Tryz.func80, Tryz.ntmps80
    go_wp2_with (go_at_call 68; rw [HW.out]; (with_reducible refine (spec_programok a n cap P HZ.out.1 _ H0.out.2.2.1 false HRP.out).mono ?_); rintro e w2 ⟨rfl, hb2⟩)
    go_ret
    exact ⟨rfl, H0.out.2.1.trans (hb2.mono (Nat.le_of_lt hWl))⟩
  · have HPR := Lib.hid (hrp.1 rfl)
    clear hrp
    cases hv : varsOk V
    · obtain rfl : r = false := by
        rw [← Bool.not_eq_true]; intro e
        have := (HR.out.1 e).1.2.1; rw [hv] at this; cases this
      have HV := Lib.hid hv
      clear hv
      go_enter Tryz.func80, Tryz.ntmps80
      go_wp2_with (go_at_call 68; rw [HW.out]; (with_reducible refine (spec_programok a n cap P HZ.out.1 _ H0.out.2.2.1 true HRP.out).mono ?_); rintro e w2 ⟨rfl, hb2⟩; refine Hid.out ?_)
      have HB2 := Lib.hid hb2
      have d0 : w2.cell? ⟨w.heap.size, 0, none⟩ = some (.slice a n cap) := (hb2.cell (p := ⟨w.heap.size, 0, none⟩) hWl).trans c0
      clear hb2 c0
      refine Lib.hid ?_
      go_wp2_with (go_at_call 69; (with_reducible refine (spec_vars _ ad nv cv V hnv (H0.out.2.2.2.1.below HB2.out) false HV.out).mono ?_); rintro e w3 ⟨rfl, rfl⟩)
      go_ret
      exact ⟨rfl, H0.out.2.1.trans (HB2.out.mono (Nat.le_of_lt hWl))⟩
    · have HV := Lib.hid hv
      clear hv
      cases hi9 : (decide (0 ≤ i) && decide (i ≤ (n : Int) - 1))
      · obtain rfl : r = false := by
          rw [← Bool.not_eq_true]; intro e
          have h1 := (HR.out.1 e).1.2.2
          simp at hi9; omega
        have HIN := Lib.hid hi9
        clear hi9
        go_enter Tryz.func80, Tryz.ntmps80
        go_wp2_with (go_at_call 68; rw [HW.out]; (with_reducible refine (spec_programok a n cap P HZ.out.1 _ H0.out.2.2.1 true HRP.out).mono ?_); rintro e w2 ⟨rfl, hb2⟩; refine Hid.out ?_)
        have HB2 := Lib.hid hb2
        have d0 : w2.cell? ⟨w.heap.size, 0, none⟩ = some (.slice a n cap) := (hb2.cell (p := ⟨w.heap.size, 0, none⟩) hWl).trans c0
        clear hb2 c0
        refine Lib.hid ?_
        go_wp2_with (first
          | (go_at_call 69; (with_reducible refine (spec_vars _ ad nv cv V hnv (H0.out.2.2.2.1.below HB2.out) true HV.out).mono ?_); rintro e w3 ⟨rfl, rfl⟩)
          | (go_at_call 70; (with_reducible refine (in_any _ 0 _ false HIN.out _).mono ?_); rintro e w3 ⟨rfl, rfl⟩))
        go_ret
        exact ⟨rfl, H0.out.2.1.trans (HB2.out.mono (Nat.le_of_lt hWl))⟩
      · have HIN := Lib.hid hi9
        have hin : 0 ≤ i ∧ i < n := by simp at hi9; omega
        clear hi9
        by_cases h100 : (100 : Int) < nu
        · obtain rfl : r = false := by
            rw [← Bool.not_eq_true]; intro e
            have := (HR.out.1 e).2.1; omega
          go_enter Tryz.func80, Tryz.ntmps80
          go_wp2_with (go_at_call 68; rw [HW.out]; (with_reducible refine (spec_programok a n cap P HZ.out.1 _ H0.out.2.2.1 true HRP.out).mono ?_); rintro e w2 ⟨rfl, hb2⟩; refine Hid.out ?_)
          have HB2 := Lib.hid hb2
          have d0 : w2.cell? ⟨w.heap.size, 0, none⟩ = some (.slice a n cap) := (hb2.cell (p := ⟨w.heap.size, 0, none⟩) hWl).trans c0
          clear hb2 c0
          refine Lib.hid ?_
          go_wp2_with (first
            | (go_at_call 69; (with_reducible refine (spec_vars _ ad nv cv V hnv (H0.out.2.2.2.1.below HB2.out) true HV.out).mono ?_); rintro e w3 ⟨rfl, rfl⟩)
            | (go_at_call 70; (with_reducible refine (in_any _ 0 _ true HIN.out _).mono ?_); rintro e w3 ⟨rfl, rfl⟩))
          go_ret
          exact ⟨rfl, H0.out.2.1.trans (HB2.out.mono (Nat.le_of_lt hWl))⟩
        · have HAL := Lib.hid (show r = true ↔ ∀ u ∈ UU, allV u = true from ⟨fun e => (HR.out.1 e).2.2, fun h => HR.out.2 ⟨⟨HPR.out, HV.out, hin.1, by rw [hlen]; exact hin.2⟩, by omega, h⟩⟩)
          go_enter Tryz.func80, Tryz.ntmps80
          go_wp2_with (go_at_call 68; rw [HW.out]; (with_reducible refine (spec_programok a n cap P HZ.out.1 _ H0.out.2.2.1 true HRP.out).mono ?_); rintro e w2 ⟨rfl, hb2⟩; refine Hid.out ?_)
          have HB2 := Lib.hid hb2
          have d0 : w2.cell? ⟨w.heap.size, 0, none⟩ = some (.slice a n cap) := (hb2.cell (p := ⟨w.heap.size, 0, none⟩) hWl).trans c0
          clear hb2 c0
          refine Lib.hid ?_
          go_wp2_with (first
            | (go_at_call 69; (with_reducible refine (spec_vars _ ad nv cv V hnv (H0.out.2.2.2.1.below HB2.out) true HV.out).mono ?_); rintro e w3 ⟨rfl, rfl⟩)
            | (go_at_call 70; (with_reducible refine (in_any _ 0 _ true HIN.out _).mono ?_); rintro e w3 ⟨rfl, rfl⟩))
          clear d0
          have HBW := Lib.hid (H0.out.2.1.trans (HB2.out.mono (Nat.le_of_lt hWl)))
          have HUU := Lib.hid (H0.out.2.2.2.2.below HB2.out)
          go_loopw [9] (fun i wr => ∃ k : Nat, k ≤ nu ∧ i = .int .i64 k ∧ Hid (∀ u ∈ UU.take k, allV u = true) ∧ wr = w2) (fun i _ => nu - (intOf i).toNat)
          case atStart => exact ⟨0, Nat.zero_le _, rfl, by simp [Hid], rfl⟩
          case round =>
            obtain ⟨k, hk, rfl, hA, rfl⟩ := hrel
            by_cases hlt : k < nu
            · have hI : (k : Int) < nu := by omega
              obtain ⟨b, off, L, ab, nb, cb, rfl, hlb, hL, hc, hle, hrow⟩ := HUU.out.2 k hlt
              have hnb : (nb : Int) ≤ 1048576 := by have := HZ.out.2.2 L (mem_atS hL); rw [hrow.1] at this; omega
              have HLL := Lib.hid (And.intro hL hrow)
              clear hL hrow hle
              cases hv9 : allV L
              · obtain rfl : r = false := by
                  rw [← Bool.not_eq_true]; intro e
                  have := HAL.out.1 e L (mem_atS HLL.out.1); rw [hv9] at this; cases this
                have HV9 := Lib.hid hv9
                clear hv9
                go_wp2_with (go_at_call 71; (with_reducible refine (spec_vals _ ab nb cb L hnb HLL.out.2 false HV9.out).mono ?_); rintro e w3 ⟨rfl, rfl⟩)
                go_ret
                exact ⟨rfl, HBW.out⟩
              · have HV9 := Lib.hid hv9
                have hA2 := Lib.hid (show ∀ u ∈ UU.take (k + 1), allV u = true from fun u hu => by
                  rw [List.take_add_one, HLL.out.1] at hu
                  rcases List.mem_append.1 hu with h | h
                  · exact hA.out u h
                  · simp at h; rw [h]; exact HV9.out)
                clear hv9
                go_wp2_with (go_at_call 71; (with_reducible refine (spec_vals _ ab nb cb L hnb HLL.out.2 true HV9.out).mono ?_); rintro e w3 ⟨rfl, rfl⟩)
                go_roundw
                case rel => exact ⟨k + 1, by omega, by go_num, hA2, trivial⟩
                case measure => simp [intOf]; omega
            · obtain rfl : k = nu := by omega
              have hI : ¬ (k : Int) < k := by omega
              obtain rfl : r = true := HAL.out.2 (fun u hu => hA.out u (by rw [List.take_of_length_le (by omega)]; exact hu))
              go_wp2
              go_ret
              exact ⟨rfl, HBW.out⟩
theorem box_more {S M : List Int} {k : Nat} {x : Int} (hx : M[k]? = some x) (h : (box S (M.take k)).length < 24) : box S (M.take (k + 1)) = box S (M.take k) ++ [x] := by
  rw [List.take_add_one, hx, ← box_box]
  show (box S (M.take k) ++ [x]).take 24 = _
  rw [List.take_of_length_le (by simp; omega)]
theorem box_full {S M : List Int} {k : Nat} (h : 24 ≤ (box S (M.take k)).length) : box S M = box S (M.take k) := by
  have h1 := box_box S (M.take k) (M.drop k)
  rw [List.take_append_drop] at h1
  rw [← h1]
  show (box S (M.take k) ++ M.drop k).take 24 = _
  have h2 := box_le S (M.take k)
  rw [List.take_append_of_le_length (by omega), List.take_of_length_le h2]
/-- The outbox with further values: the row has grown in place or moved. -/
def SendOut (B : Nat) (w : World) (v : Value) (S : List Int) (e : Ending) (w' : World) : Prop :=
  ∃ a' n' c', e = .returned (.slice a' n' c') ∧ w'.ownsRow B 3 1 (.slice a' n' c') n' (ivs S) ∧ w.grownBy w' v.ownBlock ∧ ((Value.slice a' n' c').ownBlock = v.ownBlock ∨ ∀ b, (Value.slice a' n' c').ownBlock = some b → w.heap.size ≤ b)
set_option maxHeartbeats 4000000 in
set_option maxRecDepth 100000 in
theorem spec_send (B : Nat) (w : World) (hB : B ≤ w.heap.size) (a : Option Addr) (n c : Nat) (S : List Int) (hS : w.ownsRow B 3 1 (.slice a n c) n (ivs S)) (hS24 : S.length ≤ 24) (am : Option Addr) (m cm : Nat) (M : List Int) (hm : (m : Int) ≤ 1048576) (hM : Row w am m M) (hap : ∀ g off, am = some ⟨g, off, none⟩ → some g ≠ (Value.slice a n c).ownBlock) :
    Calls Tryz.prog 122 #[.slice a n c, .slice am m cm] w (SendOut B w (.slice a n c) (box S M)) := by
  obtain ⟨i0, hi, hz0, hz1, hz2⟩ := info_parts row.infoInt
  obtain ⟨v0, hv0⟩ : ∃ v0, (Value.slice a n c).ownBlock = v0 := ⟨_, rfl⟩
  have hMl := hM.1
  have H0 := Lib.hid (And.intro hS (And.intro hM hap))
  have HBX := Lib.hid (show S = box S (M.take 0) by rw [List.take_zero, box_nil hS24])
  have HV0 := Lib.hid hv0
  clear hS hM hap
  go_enter Tryz.func122, Tryz.ntmps122
  go_wp2
  go_loopw [0, 5] (fun s i wr => ∃ (k : Nat) (a' : Option Addr) (n' c' : Nat), k ≤ m ∧ i = .int .i64 k ∧ s = .slice a' n' c' ∧ n' ≤ 24 ∧ Hid (wr.ownsRow B 3 1 (.slice a' n' c') n' (ivs (box S (M.take k)))) ∧ Hid (w.grownBy wr v0 ∧ ((Value.slice a' n' c').ownBlock = v0 ∨ ∀ b, (Value.slice a' n' c').ownBlock = some b → w.heap.size ≤ b))) (fun _ i _ => m - (intOf i).toNat)
  case atStart => exact ⟨0, a, n, c, Nat.zero_le _, rfl, rfl, by have := own_len H0.out.1; omega, by rw [← HBX.out]; exact H0.out.1, row.grown_refl _ _, .inl HV0.out⟩
  case round =>
    obtain ⟨k, a', n', c', hk, rfl, rfl, hn24, HO, HG⟩ := hrel
    have hnl : (box S (M.take k)).length = n' := own_len HO.out
    by_cases hlt : k < m
    · have hI : (k : Int) < m := by omega
      by_cases hfull : n' < 24
      · have hF : (n' : Int) < 24 := by omega
        obtain ⟨b, off, x, rfl, hlb, hx, hcx⟩ := H0.out.2.1.2 k hlt
        have hcw : wr.cell? ⟨b, off + k, none⟩ = some (.int .i64 x) := HG.out.1.cell hcx (by rw [← HV0.out]; exact H0.out.2.2 b off rfl)
        have HMORE := Lib.hid (box_more (S := S) hx (by omega))
        clear hcx hx
        go_wp2_with (at_builtin; refine wpList_append_own_at _ rfl _ _ 28 rfl B 3 i0 (.int .i64 0) 1 8 Tryz.underlying28 hi hz0 hz1 hz2 rfl (by decide) _ _ _ rfl (HO.out.alloc _) ⟨wr.heap.size, 0, none⟩ 1 1 [.int .i64 x] rfl rfl (World.news_of_block (cs := #[.int .i64 x]) (t := 3) (fr := (0, 0)) (heap_alloc_new wr _)) (by simp [Value.oneCell']) (by unfold maxLen; omega) (by omega) (by simp; have := HG.out.1.size; omega) ?_; intro v4 w4 hown4 hgrow4 _ hat4; refine Hid.out ?_)
        rw [ivs_snoc, ← HMORE.out] at hown4
        obtain ⟨g4, c4, rfl, hg4, hg4l⟩ := hown4.form (by omega)
        have hgw : w.grownBy w4 v0 := by
          have h1 : wr.grownBy w4 (Value.slice a' n' c').ownBlock := grown_trans (World.grownBy_alloc wr _ _) hgrow4
          rcases HG.out.2 with h2 | h2
          · rw [h2] at h1; exact grown_trans HG.out.1 h1
          · exact ⟨h1.os.trans HG.out.1.os, h1.tape.trans HG.out.1.tape, h1.output.trans HG.out.1.output, Nat.le_trans HG.out.1.size h1.size, fun j hj hne => (h1.block j (Nat.lt_of_lt_of_le hj HG.out.1.size) (fun e => by have := h2 j e.symm; omega)).trans (HG.out.1.block j hj hne)⟩
        have hat : (Value.slice (some ⟨g4, 0, none⟩) (n' + 1) c4).ownBlock = v0 ∨ ∀ b, (Value.slice (some ⟨g4, 0, none⟩) (n' + 1) c4).ownBlock = some b → w.heap.size ≤ b := by
          rcases hat4 with h | h
          · have h' : (Value.slice (some ⟨g4, 0, none⟩) (n' + 1) c4).ownBlock = (Value.slice a' n' c').ownBlock := h
            rcases HG.out.2 with h2 | h2
            · left; rw [← h2]; exact h'
            · right; intro q hq; exact h2 q (by rw [← h']; exact hq)
          · right; intro q hq
            have h3 : some g4 = some (wr.heap.size + 1) := by simpa [Value.ownBlock] using h
            have h4 : some g4 = some q := hq
            have := HG.out.1.size
            have := Option.some.inj h3; have := Option.some.inj h4; omega
        have H4 := Lib.hid (And.intro hown4 (And.intro hgw hat))
        clear hown4 hgrow4 hat4 hgw hat hcw
        refine Lib.hid ?_
        go_wp2
        go_roundw
        case rel => exact ⟨k + 1, some ⟨g4, 0, none⟩, n' + 1, c4, by omega, by go_num, rfl, by omega, H4.out.1, H4.out.2⟩
        case measure => simp [intOf]; omega
      · have hF : ¬ (n' : Int) < 24 := by omega
        have HX := Lib.hid (box_full (S := S) (M := M) (k := k) (by omega))
        go_wp2
        go_ret
        exact ⟨a', n', c', rfl, by rw [HX.out]; exact HO.out, by rw [HV0.out]; exact HG.out.1, by rw [HV0.out]; exact HG.out.2⟩
    · obtain rfl : k = m := by omega
      have hI : ¬ (k : Int) < k := by omega
      have HX := Lib.hid (show box S M = box S (M.take k) by rw [List.take_of_length_le (by omega)])
      go_wp2
      go_ret
      exact ⟨a', n', c', rfl, by rw [HX.out]; exact HO.out, by rw [HV0.out]; exact HG.out.1, by rw [HV0.out]; exact HG.out.2⟩
end Go.Proofs.YtekdnhhmiabngaaGreat.ref
