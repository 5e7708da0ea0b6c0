/- Several texts in one: RefA ReadC RefP ExeN MarkP. -/
import Derived.Test.YtlinpefeojpjnaaGHub9
import Derived.Test.YtlinpefeojpjnaaGHub1
import Derived.Test.YtlinpefeojpjnaaGHub5
import Derived.Deep.AppendLies
import Derived.WalkSpells
import Derived.Test.YtlinpefeojpjnaaGHub4

/- Reference runs: what RefRun and RefTasks must give; what the laws ask of it. Plain mathematics. -/
namespace Go.Proofs.Ytlinpefeojpjnaa.ref
open Go Go.Proofs.Ytlinpefeojpjnaa.stm Go.Proofs.Ytlinpefeojpjnaa.blk Go.Proofs.Ytlinpefeojpjnaa.expr Go.Proofs.Ytlinpefeojpjnaa.sets Go.Proofs.Ytlinpefeojpjnaa.val Go.Proofs.Ytlinpefeojpjnaa.prg Go.Proofs.Ytlinpefeojpjnaa.exe

/-- The state of a reference run: the variables, what has been sent, the next task. -/
structure Rf where
  (V S : List Int) (T : Int)
def zeroRf : Rf := ⟨[], [], 0⟩
/-- The outbox has room for 24 values. -/
def box (S M : List Int) : List Int := (S ++ M).take 24
theorem box_le (S M : List Int) : (box S M).length ≤ 24 := by unfold box; rw [List.length_take]; omega
theorem box_box (S M N : List Int) : box (box S M) N = box S (M ++ N) := by
  unfold box
  rw [← List.append_assoc]
  by_cases h : (S ++ M).length ≤ 24
  · rw [List.take_of_length_le h]
  · have e1 : (S ++ M ++ N).take 24 = (S ++ M).take 24 := List.take_append_of_le_length (by omega)
    have e2 : ((S ++ M).take 24 ++ N).take 24 = ((S ++ M).take 24).take 24 := List.take_append_of_le_length (by rw [List.length_take]; omega)
    rw [e1, e2, List.take_take, Nat.min_self]
theorem box_take (S M : List Int) : box S (M.take 24) = box S M := by
  unfold box
  rw [List.take_append, List.take_append, List.take_take]
  congr 2
  omega
theorem box_nil {S : List Int} (h : S.length ≤ 24) : box S [] = S := by unfold box; rw [List.append_nil, List.take_of_length_le h]
/-- A step of a reference run. -/
def StepR (P : List Tk) (u : List Int) (R R' : Rf) : Prop := ∃ E, EffIs P R.V u R.T true E ∧ R' = ⟨E.V, box R.S E.S, E.N⟩
inductive RunR (P : List Tk) : List (List Int) → Rf → Rf → Prop
  | nil (R : Rf) : RunR P [] R R
  | cons (u : List Int) (UU : List (List Int)) (R R1 R2 : Rf) (h : StepR P u R R1) (hr : RunR P UU R1 R2) : RunR P (u :: UU) R R2
inductive RunT (P : List Tk) : List (List Int) → List Int → Int → List Int → Prop
  | nil (V : List Int) (T : Int) : RunT P [] V T []
  | cons (u : List Int) (UU : List (List Int)) (V : List Int) (T : Int) (E : Eff) (L : List Int) (h : EffIs P V u T true E) (hr : RunT P UU E.V E.N L) : RunT P (u :: UU) V T (T :: L)
/-- The variables and the task of a state are valid. -/
def Sound (P : List Tk) (V : List Int) (i : Int) : Prop := IsPrg P ∧ varsOk V = true ∧ 0 ≤ i ∧ i < P.length
/-- The next effect exists and leaves a valid state. -/
theorem Sound.step {P : List Tk} {V u : List Int} {i : Int} (h : Sound P V i) (hu : allV u = true) : ∃ E, EffIs P V u i true E ∧ Sound P E.V E.N ∧ E.S.length ≤ 3000 := by
  obtain ⟨hp, hv, h0, h1⟩ := h
  obtain ⟨j, rfl⟩ : ∃ j : Nat, i = j := ⟨i.toNat, by omega⟩
  obtain ⟨t, T, ht, hT⟩ := taskAt_ex (j := j) hp hv hu (by omega)
  refine ⟨_, .inr ⟨rfl, t, T, hT, rfl⟩, ⟨hp, (hT.good (listSrc_val hu)).1, ?_⟩, ?_⟩
  · have := nx_range (v := evalV (exec (listSrc u) T ⟨V, [], []⟩).V t.o t.x t.y) (n := P.length) (by omega)
    exact this
  · have := hT.small (listSrc u); simp only [effOf]; omega
theorem EffIs.sound {P : List Tk} {V u : List Int} {i : Int} {E : Eff} (hE : EffIs P V u i true E) (h : Sound P V i) (hu : allV u = true) : Sound P E.V E.N ∧ E.S.length ≤ 3000 := by
  obtain ⟨E', h1, h2⟩ := h.step hu
  obtain ⟨_, rfl⟩ := hE.unique h1
  exact h2
theorem StepR.sound {P : List Tk} {u : List Int} {R R' : Rf} (h : StepR P u R R') (hR : Sound P R.V R.T) (hu : allV u = true) : Sound P R'.V R'.T ∧ R'.S.length ≤ 24 := by
  obtain ⟨E, hE, rfl⟩ := h
  exact ⟨(EffIs.sound hE hR hu).1, box_le _ _⟩
theorem StepR.unique {P : List Tk} {u : List Int} {R R1 R2 : Rf} (h1 : StepR P u R R1) (h2 : StepR P u R R2) : R1 = R2 := by
  obtain ⟨E, hE, rfl⟩ := h1
  obtain ⟨E', hE', rfl⟩ := h2
  obtain ⟨_, rfl⟩ := hE.unique hE'
  rfl
theorem runR_ex {P : List Tk} : ∀ (UU : List (List Int)) (R : Rf), Sound P R.V R.T → (∀ u ∈ UU, allV u = true) → ∃ R', RunR P UU R R'
  | [], R, _, _ => ⟨R, .nil R⟩
  | u :: UU, R, hR, hu => by
    obtain ⟨E, hE, hs, _⟩ := hR.step (hu u (by simp))
    obtain ⟨R', hR'⟩ := runR_ex UU ⟨E.V, box R.S E.S, E.N⟩ hs (fun v hv => hu v (by simp [hv]))
    exact ⟨R', .cons u UU R _ R' ⟨E, hE, rfl⟩ hR'⟩
theorem runT_ex {P : List Tk} : ∀ (UU : List (List Int)) (V : List Int) (i : Int), Sound P V i → (∀ u ∈ UU, allV u = true) → ∃ L, RunT P UU V i L
  | [], V, i, _, _ => ⟨[], .nil V i⟩
  | u :: UU, V, i, hR, hu => by
    obtain ⟨E, hE, hs, _⟩ := hR.step (hu u (by simp))
    obtain ⟨L, hL⟩ := runT_ex UU E.V E.N hs (fun v hv => hu v (by simp [hv]))
    exact ⟨_, .cons u UU V i E L hE hL⟩
theorem RunR.unique {P : List Tk} {UU : List (List Int)} {R R1 R2 : Rf} (h1 : RunR P UU R R1) (h2 : RunR P UU R R2) : R1 = R2 := by
  induction h1 with
  | nil R => cases h2; rfl
  | cons u UU R Ra Rb h hr ih =>
    cases h2 with
    | cons _ _ _ Rc _ h' hr' =>
      obtain rfl := h.unique h'
      exact ih hr'
theorem RunT.unique {P : List Tk} {UU : List (List Int)} {V : List Int} {i : Int} {L1 L2 : List Int} (h1 : RunT P UU V i L1) (h2 : RunT P UU V i L2) : L1 = L2 := by
  induction h1 generalizing L2 with
  | nil V i => cases h2; rfl
  | cons u UU V T E L h hr ih =>
    cases h2 with
    | cons _ _ _ _ E' L' h' hr' =>
      obtain ⟨_, rfl⟩ := h.unique h'
      rw [ih hr']
theorem RunR.sound {P : List Tk} {UU : List (List Int)} {R R' : Rf} (h : RunR P UU R R') : Sound P R.V R.T → (∀ u ∈ UU, allV u = true) → Sound P R'.V R'.T ∧ (R.S.length ≤ 24 → R'.S.length ≤ 24) := by
  induction h with
  | nil R => exact fun h _ => ⟨h, id⟩
  | cons u UU R Ra Rb h hr ih =>
    intro hR hu
    have h1 := h.sound hR (hu u (by simp))
    have h2 := ih h1.1 (fun v hv => hu v (by simp [hv]))
    exact ⟨h2.1, fun _ => h2.2 h1.2⟩
theorem RunT.len {P : List Tk} {UU : List (List Int)} {V : List Int} {i : Int} {L : List Int} (h : RunT P UU V i L) : L.length = UU.length := by
  induction h with
  | nil => rfl
  | cons _ _ _ _ _ _ _ _ ih => simp [ih]
/-- A run goes on where another one has stopped. -/
theorem RunR.snoc {P : List Tk} {UU : List (List Int)} {R R1 R2 : Rf} {u : List Int} (h : RunR P UU R R1) (hs : StepR P u R1 R2) : RunR P (UU ++ [u]) R R2 := by
  induction h with
  | nil R => exact .cons u [] R R2 R2 hs (.nil _)
  | cons v UU R Ra Rb h hr ih => exact .cons v _ R Ra R2 h (ih hs)
theorem RunR.append {P : List Tk} {A B : List (List Int)} {R R1 R2 : Rf} (h : RunR P A R R1) (hb : RunR P B R1 R2) : RunR P (A ++ B) R R2 := by
  induction h with
  | nil R => exact hb
  | cons u UU R Ra Rb h hr ih => exact .cons u _ R Ra R2 h (ih hb)
theorem RunT.snoc {P : List Tk} {UU : List (List Int)} {V : List Int} {i : Int} {L : List Int} {u : List Int} {R : Rf} {S : List Int} {E : Eff} (h : RunT P UU V i L) : RunR P UU ⟨V, S, i⟩ R → EffIs P R.V u R.T true E → RunT P (UU ++ [u]) V i (L ++ [R.T]) := by
  intro hR hE
  induction h generalizing S with
  | nil V i => cases hR; exact .cons u [] V i E [] hE (.nil _ _)
  | cons v UU V T E' L h hr ih =>
    cases hR with
    | cons _ _ _ Ra _ hs hr' =>
      obtain ⟨E2, hE2, rfl⟩ := hs
      obtain ⟨_, rfl⟩ := h.unique hE2
      exact .cons v _ V T E' _ h (ih hr')
/-- The outbox before a run does not change what it does, but for what is sent. -/
theorem RunR.other {P : List Tk} {UU : List (List Int)} {R R' : Rf} (h : RunR P UU R R') : ∀ (A B : List Int), A.length ≤ 24 → R.S = box A B → ∀ R2, RunR P UU ⟨R.V, box [] B, R.T⟩ R2 → R' = ⟨R2.V, box A R2.S, R2.T⟩ := by
  induction h with
  | nil R =>
    intro A B hA hS R2 h2
    cases h2
    obtain ⟨V, S, T⟩ := R
    simp only at hS
    show (⟨V, S, T⟩ : Rf) = ⟨V, box A (box [] B), T⟩
    rw [hS, show box [] B = B.take 24 by simp [box], box_take]
  | cons u UU R Ra Rb h hr ih =>
    intro A B hA hS R2 h2
    cases h2 with
    | cons _ _ _ Rc _ h' hr' =>
      obtain ⟨E, hE, rfl⟩ := h
      obtain ⟨E', hE', rfl⟩ := h'
      obtain ⟨_, rfl⟩ := hE.unique hE'
      refine ih A (B ++ E.S) hA (by simp only; rw [hS, box_box]) R2 ?_
      simp only [box_box] at hr'
      exact hr'
/-- A run as a whole and in two parts. -/
theorem parts {P : List Tk} {V : List Int} {i : Int} {UU : List (List Int)} {n : Nat} {A B C : Rf} (hA : RunR P UU ⟨V, [], i⟩ A) (hB : RunR P (UU.take n) ⟨V, [], i⟩ B) (hC : RunR P (UU.drop n) ⟨B.V, [], B.T⟩ C) (hBs : B.S.length ≤ 24) :
    A = ⟨C.V, box B.S C.S, C.T⟩ := by
  have hex : ∀ (U2 : List (List Int)) (R C' : Rf), RunR P U2 ⟨R.V, [], R.T⟩ C' → ∃ R2, RunR P U2 R R2 := by
    intro U2
    induction U2 with
    | nil => exact fun R _ _ => ⟨R, .nil R⟩
    | cons u U2 ih =>
      intro R C' h
      cases h with
      | cons _ _ _ Ra _ hs hr =>
        obtain ⟨E, hE, rfl⟩ := hs
        -- the rest with another outbox
        have hrest : ∃ C2, RunR P U2 ⟨E.V, [], E.N⟩ C2 := by
          have : ∀ (U3 : List (List Int)) (S : List Int) (V : List Int) (T : Int) (C3 : Rf), RunR P U3 ⟨V, S, T⟩ C3 → ∃ C4, RunR P U3 ⟨V, [], T⟩ C4 := by
            intro U3
            induction U3 with
            | nil => exact fun S V T _ _ => ⟨_, .nil _⟩
            | cons v U3 ih3 =>
              intro S V T C3 h3
              cases h3 with
              | cons _ _ _ Rb _ hs3 hr3 =>
                obtain ⟨E3, hE3, rfl⟩ := hs3
                have key : ∀ (U4 : List (List Int)) (S1 S2 V4 : List Int) (T4 : Int) (C5 : Rf), RunR P U4 ⟨V4, S1, T4⟩ C5 → ∃ C6, RunR P U4 ⟨V4, S2, T4⟩ C6 := by
                  intro U4
                  induction U4 with
                  | nil => exact fun S1 S2 V4 T4 _ _ => ⟨_, .nil _⟩
                  | cons v4 U4 ih4 =>
                    intro S1 S2 V4 T4 C5 h5
                    cases h5 with
                    | cons _ _ _ Rc _ hs5 hr5 =>
                      obtain ⟨E5, hE5, rfl⟩ := hs5
                      obtain ⟨C6, h6⟩ := ih4 _ (box S2 E5.S) _ _ _ hr5
                      exact ⟨C6, .cons v4 U4 _ _ C6 ⟨E5, hE5, rfl⟩ h6⟩
                obtain ⟨C6, h6⟩ := key U3 _ (box [] E3.S) _ _ _ hr3
                exact ⟨C6, .cons v U3 _ _ C6 ⟨E3, hE3, rfl⟩ h6⟩
          exact this U2 _ _ _ _ hr
        obtain ⟨C2, hC2⟩ := hrest
        obtain ⟨R2, hR2⟩ := ih ⟨E.V, box R.S E.S, E.N⟩ C2 hC2
        exact ⟨R2, .cons u U2 R _ R2 ⟨E, hE, rfl⟩ hR2⟩
  obtain ⟨A2, hA2⟩ := hex (UU.drop n) B C hC
  have h1 := hB.append hA2
  rw [List.take_append_drop] at h1
  obtain rfl := hA.unique h1
  refine hA2.other B.S [] hBs (box_nil hBs).symm C ?_
  exact hC
/-- The tasks of a run are those at which the shorter runs stop. -/
theorem tasks_at {P : List Tk} {UU : List (List Int)} {V : List Int} {i : Int} {L : List Int} (h : RunT P UU V i L) : ∀ {S : List Int} {k : Nat} {R : Rf}, k < UU.length → RunR P (UU.take k) ⟨V, S, i⟩ R → L[k]? = some R.T := by
  induction h with
  | nil V i => intro S k R hk; simp at hk
  | cons u UU V T E L h hr ih =>
    intro S k R hk hR
    cases k with
    | zero => rw [List.take_zero] at hR; cases hR; rfl
    | succ k =>
      rw [List.take_succ_cons] at hR
      cases hR with
      | cons _ _ _ Ra _ hs hr' =>
        obtain ⟨E', hE', rfl⟩ := hs
        obtain ⟨_, rfl⟩ := h.unique hE'
        rw [List.getElem?_cons_succ]
        exact ih (by simpa using hk) hr'
/-- The arguments of RefRun are valid. -/
def RefOk (P : List Tk) (V : List Int) (UU : List (List Int)) (i : Int) : Prop := Sound P V i ∧ UU.length ≤ 100 ∧ ∀ u ∈ UU, allV u = true
/-- What RefRun must give. -/
def RefIs (P : List Tk) (V : List Int) (UU : List (List Int)) (i : Int) (r : Bool) (R : Rf) : Prop :=
  (r = false ∧ R = zeroRf ∧ ¬ RefOk P V UU i) ∨ (r = true ∧ RefOk P V UU i ∧ RunR P UU ⟨V, [], i⟩ R)
theorem refIs_ex (P : List Tk) (V : List Int) (UU : List (List Int)) (i : Int) : ∃ r R, RefIs P V UU i r R := by
  rcases Classical.em (RefOk P V UU i) with h | h
  · obtain ⟨R, hR⟩ := runR_ex UU ⟨V, [], i⟩ h.1 h.2.2
    exact ⟨true, R, .inr ⟨rfl, h, hR⟩⟩
  · exact ⟨false, zeroRf, .inl ⟨rfl, rfl, h⟩⟩
theorem RefIs.size {P : List Tk} {V : List Int} {UU : List (List Int)} {i : Int} {r : Bool} {R : Rf} (h : RefIs P V UU i r R) : R.V.length ≤ 8 ∧ R.S.length ≤ 24 := by
  rcases h with ⟨_, rfl, _⟩ | ⟨_, h, hR⟩
  · simp [zeroRf]
  · have := hR.sound h.1 h.2.2
    refine ⟨?_, this.2 (by simp)⟩
    have := ((varsOk_iff R.V).1 this.1.2.1).1
    omega
/-- What RefTasks must give. -/
def TasksIs (P : List Tk) (V : List Int) (UU : List (List Int)) (i : Int) (L : List Int) : Prop :=
  (L = [] ∧ ¬ RefOk P V UU i) ∨ (RefOk P V UU i ∧ RunT P UU V i L)
theorem tasksIs_ex (P : List Tk) (V : List Int) (UU : List (List Int)) (i : Int) : ∃ L, TasksIs P V UU i L := by
  rcases Classical.em (RefOk P V UU i) with h | h
  · obtain ⟨L, hL⟩ := runT_ex UU V i h.1 h.2.2
    exact ⟨L, .inr ⟨h, hL⟩⟩
  · exact ⟨[], .inl ⟨rfl, h⟩⟩
theorem TasksIs.size {P : List Tk} {V : List Int} {UU : List (List Int)} {i : Int} {L : List Int} (h : TasksIs P V UU i L) : L.length ≤ 100 := by
  rcases h with ⟨rfl, _⟩ | ⟨h, hL⟩
  · simp
  · rw [hL.len]; exact h.2.1
/-- Are two references the same? -/
def sameRf (a b : Rf) : Bool := decide (a.V = b.V) && (decide (a.S = b.S) && decide (a.T = b.T))
theorem refOk_dec (P : List Tk) (V : List Int) (UU : List (List Int)) (i : Int) : ∃ r : Bool, r = true ↔ RefOk P V UU i := by
  rcases Classical.em (RefOk P V UU i) with h | h
  · exact ⟨true, by simp [h]⟩
  · exact ⟨false, by simp [h]⟩
end Go.Proofs.Ytlinpefeojpjnaa.ref

/- Chapter 3's ReadsOf of the model: the numbers of the variables that a valid expression names, in ascending order, in new memory; nothing that was there is written. -/
namespace Go.Proofs.Ytlinpefeojpjnaa.expr
open Go.ChangeShapes Go.WideShapes Go.ChangeAt Go.RowKit Go.Proofs.Ytlinpefeojpjnaa.row Go.Proofs.Ytlinpefeojpjnaa.val

def readsV (o a b : Int) : List Int := if exprOk o a b then rd a b 8 else []
/-- A new row of these numbers. -/
def NewInts (w : World) (L : List Int) (e : Ending) (w' : World) : Prop :=
  ∃ ad n cap, e = .returned (.slice ad n cap) ∧ w'.ownsRow w.heap.size 3 1 (.slice ad n cap) n (ivs L) ∧ Below w.heap.size w w'

end Go.Proofs.Ytlinpefeojpjnaa.expr

/- A reference as a value, and in new memory; what the program's RefRun, RefTasks and SameRef are to give: the shapes of their contracts. -/
namespace Go.Proofs.Ytlinpefeojpjnaa.ref
open Go Go.ChangeShapes Go.WideShapes Go.ChangeAt Go.RowKit Go.Proofs.Ytlinpefeojpjnaa.row Go.Proofs.Ytlinpefeojpjnaa.val Go.Proofs.Ytlinpefeojpjnaa.expr Go.Proofs.Ytlinpefeojpjnaa.stm Go.Proofs.Ytlinpefeojpjnaa.blk Go.Proofs.Ytlinpefeojpjnaa.prg Go.Proofs.Ytlinpefeojpjnaa.exe Go.Proofs.Ytlinpefeojpjnaa.srow

abbrev refV (a1 : Option Addr) (n1 c1 : Nat) (a2 : Option Addr) (n2 c2 : Nat) (R : Rf) : Value := .agg #[.slice a1 n1 c1, .slice a2 n2 c2, .int .i64 R.T]
/-- The reference in new memory. -/
def RefMem (B : Nat) (a1 : Option Addr) (n1 c1 : Nat) (a2 : Option Addr) (n2 c2 : Nat) (R : Rf) (w' : World) : Prop :=
  w'.ownsRow B 3 1 (.slice a1 n1 c1) n1 (ivs R.V) ∧ w'.ownsRow B 3 1 (.slice a2 n2 c2) n2 (ivs R.S) ∧ ((Value.slice a1 n1 c1).ownBlock = none ∨ (Value.slice a1 n1 c1).ownBlock ≠ (Value.slice a2 n2 c2).ownBlock)
def NewRef (w : World) (R : Rf) (e : Ending) (w' : World) : Prop :=
  ∃ a1 n1 c1 a2 n2 c2, e = .returned (refV a1 n1 c1 a2 n2 c2 R) ∧ RefMem w.heap.size a1 n1 c1 a2 n2 c2 R w' ∧ Below w.heap.size w w'
def NewRefB (w : World) (r : Bool) (R : Rf) (e : Ending) (w' : World) : Prop :=
  ∃ a1 n1 c1 a2 n2 c2, e = .returned (.tuple #[refV a1 n1 c1 a2 n2 c2 R, .bool r]) ∧ RefMem w.heap.size a1 n1 c1 a2 n2 c2 R w' ∧ Below w.heap.size w w'
abbrev zero3R : Array Value := #[.slice none 0 0, .slice none 0 0, .int .i64 0]
abbrev RrC : Prop := ∀ (a : Option Addr) (n cap : Nat) (P : List Tk) (_ : Sizes P) (_ : n ≤ cap) (w : World) (_ : TkRow w a n P) (ad : Option Addr) (nv cv : Nat) (V : List Int) (_ : (nv : Int) ≤ 1048576) (_ : nv ≤ cv) (_ : Row w ad nv V) (au : Option Addr) (nu cu : Nat) (UU : List (List Int)) (_ : SSizes UU) (_ : nu ≤ cu) (_ : SRow w au nu UU)
    (i : Int) (r : Bool) (R : Rf) (_ : RefIs P V UU i r R), Calls Try.prog 16 #[.agg #[.slice a n cap], .int .i64 i, .slice ad nv cv, .slice au nu cu] w (NewRefB w r R)
abbrev RtC : Prop := ∀ (a : Option Addr) (n cap : Nat) (P : List Tk) (_ : Sizes P) (_ : n ≤ cap) (w : World) (_ : TkRow w a n P) (ad : Option Addr) (nv cv : Nat) (V : List Int) (_ : (nv : Int) ≤ 1048576) (_ : nv ≤ cv) (_ : Row w ad nv V) (au : Option Addr) (nu cu : Nat) (UU : List (List Int)) (_ : SSizes UU) (_ : nu ≤ cu) (_ : SRow w au nu UU)
    (i : Int) (L : List Int) (_ : TasksIs P V UU i L), Calls Try.prog 17 #[.agg #[.slice a n cap], .int .i64 i, .slice ad nv cv, .slice au nu cu] w (NewInts w L)
abbrev SrC : Prop := ∀ (w : World) (a1 : Option Addr) (n1 c1 : Nat) (a2 : Option Addr) (n2 c2 : Nat) (A : Rf) (_ : (n1 : Int) ≤ 1048576) (_ : (n2 : Int) ≤ 1048576) (_ : Row w a1 n1 A.V) (_ : Row w a2 n2 A.S) (b1 : Option Addr) (m1 d1 : Nat) (b2 : Option Addr) (m2 d2 : Nat) (B : Rf) (_ : (m1 : Int) ≤ 1048576) (_ : (m2 : Int) ≤ 1048576) (_ : Row w b1 m1 B.V) (_ : Row w b2 m2 B.S)
    (r : Bool) (_ : sameRf A B = r), Calls Try.prog 9 #[refV a1 n1 c1 a2 n2 c2 A, refV b1 m1 d1 b2 m2 d2 B] w (BelB w r)
end Go.Proofs.Ytlinpefeojpjnaa.ref

/- An effect as a value, and in new memory. -/
namespace Go.Proofs.Ytlinpefeojpjnaa.exe
open Go Go.ChangeShapes Go.WideShapes Go.ChangeAt Go.RowKit Go.Proofs.Ytlinpefeojpjnaa.row Go.Proofs.Ytlinpefeojpjnaa.val Go.Proofs.Ytlinpefeojpjnaa.expr

abbrev effV (a1 : Option Addr) (n1 c1 : Nat) (a2 : Option Addr) (n2 c2 : Nat) (E : Eff) : Value := .agg #[.slice a1 n1 c1, .slice a2 n2 c2, .int .i64 E.N, .int .i64 E.U]
/-- The effect in new memory. -/
def EffMem (B : Nat) (a1 : Option Addr) (n1 c1 : Nat) (a2 : Option Addr) (n2 c2 : Nat) (E : Eff) (w' : World) : Prop :=
  w'.ownsRow B 3 1 (.slice a1 n1 c1) n1 (ivs E.V) ∧ w'.ownsRow B 3 1 (.slice a2 n2 c2) n2 (ivs E.S) ∧ ((Value.slice a1 n1 c1).ownBlock = none ∨ (Value.slice a1 n1 c1).ownBlock ≠ (Value.slice a2 n2 c2).ownBlock)
def NewEff (w : World) (E : Eff) (e : Ending) (w' : World) : Prop :=
  ∃ a1 n1 c1 a2 n2 c2, e = .returned (effV a1 n1 c1 a2 n2 c2 E) ∧ EffMem w.heap.size a1 n1 c1 a2 n2 c2 E w' ∧ Below w.heap.size w w'
def NewEffB (w : World) (r : Bool) (E : Eff) (e : Ending) (w' : World) : Prop :=
  ∃ a1 n1 c1 a2 n2 c2, e = .returned (.tuple #[effV a1 n1 c1 a2 n2 c2 E, .bool r]) ∧ EffMem w.heap.size a1 n1 c1 a2 n2 c2 E w' ∧ Below w.heap.size w w'
abbrev zero4E : Array Value := #[.slice none 0 0, .slice none 0 0, .int .i64 0, .int .i64 0]
end Go.Proofs.Ytlinpefeojpjnaa.exe

/- The law's marks in a list of statements, of tasks and in a program of the answer's own, and its look at them. -/
namespace Go.Proofs.Ytlinpefeojpjnaa.mrk
open Go Go.ChangeShapes Go.WideShapes Go.ChangeAt Go.RowKit Go.Proofs.Ytlinpefeojpjnaa.row Go.Proofs.Ytlinpefeojpjnaa.stm Go.Proofs.Ytlinpefeojpjnaa.prg

/-- The cells from 0 to 'm' hold the numbers from 'k' on. -/
def Nums (cs : Array Value) (k : Int) (m : Nat) : Prop := ∀ j : Nat, j < m → cs[j]? = some (.int .i64 (k + j))
theorem Nums.six {cs : Array Value} {k K : Int} {m : Nat} (h : Nums cs k (m * 6)) (hs : m * 6 + 6 ≤ cs.size) (hK : K = k + 6 * m) :
    Nums (setAll cs (m * 6) [.int .i64 K, .int .i64 (K + 1), .int .i64 (K + 1 + 1), .int .i64 (K + 1 + 1 + 1), .int .i64 (K + 1 + 1 + 1 + 1), .int .i64 (K + 1 + 1 + 1 + 1 + 1)]) k ((m + 1) * 6) := by
  intro j hj
  by_cases hlt : j < m * 6
  · rw [setAll_out _ _ _ _ (by left; exact hlt)]; exact h j hlt
  · obtain ⟨i, rfl⟩ : ∃ i, j = m * 6 + i := ⟨j - m * 6, by omega⟩
    rw [setAll_in _ _ _ i (by simp; omega) (by omega)]
    have hi : i < 6 := by omega
    have : i = 0 ∨ i = 1 ∨ i = 2 ∨ i = 3 ∨ i = 4 ∨ i = 5 := by omega
    rcases this with rfl | rfl | rfl | rfl | rfl | rfl <;> simp <;> omega
/-- The first mark of the task 'j'. -/
def st (nb : Nat → Nat) (k : Int) : Nat → Int
  | 0 => k
  | j + 1 => st nb k j + 6 * (nb j : Int) + 3
theorem st_bound {nb : Nat → Nat} {k : Int} : ∀ (j : Nat), (∀ i, i < j → nb i ≤ 1000) → k ≤ st nb k j ∧ st nb k j ≤ k + 6003 * j
  | 0, _ => by simp [st]
  | j + 1, h => by
    have h1 := st_bound (k := k) j (fun i hi => h i (by omega))
    have h2 := h j (by omega)
    simp only [st]; omega
/-- A list of tasks of the answer's own: the row in block 'g', each task's statements in a block of their own. -/
structure Tks (lo : Nat) (w : World) (g n : Nat) (cs : Array Value) (t ts : TypeId) (gb nb : Nat → Nat) : Prop where
  box : Box g cs t w
  big : n * 4 ≤ cs.size
  low : lo ≤ g
  row : ∀ j, j < n → ∃ (ab : Option Addr) (cb : Nat), cs[j * 4]? = some (.slice ab (nb j) cb) ∧ (nb j = 0 ∨ ab = some ⟨gb j, 0, none⟩)
  small : ∀ j, j < n → nb j ≤ 1000
  body : ∀ j, j < n → nb j = 0 ∨ (lo ≤ gb j ∧ gb j ≠ g ∧ ∃ csb, Box (gb j) csb ts w ∧ nb j * 6 ≤ csb.size)
  apart : ∀ i j, i < n → j < n → i ≠ j → nb i = 0 ∨ nb j = 0 ∨ gb i ≠ gb j
/-- The marks of the first 'm' tasks are there. -/
def Mks (w : World) (cs : Array Value) (ts : TypeId) (gb nb : Nat → Nat) (k : Int) (m : Nat) : Prop :=
  ∀ i, i < m → (nb i = 0 ∨ ∃ csb, Box (gb i) csb ts w ∧ Nums csb (st nb k i) (nb i * 6)) ∧ cs[i * 4 + 1]? = some (.int .i64 (st nb k i + 6 * nb i)) ∧ cs[i * 4 + 2]? = some (.int .i64 (st nb k i + 6 * nb i + 1)) ∧ cs[i * 4 + 3]? = some (.int .i64 (st nb k i + 6 * nb i + 1 + 1))
end Go.Proofs.Ytlinpefeojpjnaa.mrk
