/- Several texts in one: QTkB QTkC QTkD QStmW QBlkS QPrgW QExeC. -/
import Derived.Test.YtmgeecdgebemdaaGreatDoorGSigQ3
import Derived.Deep.RegionHeld3
import Derived.Test.YtmgeecdgebemdaaGreatDoorGSigQ1
import Derived.Test.YtmgeecdgebemdaaGreatDoorGSigQ2
import Derived.IntWalk

/- The law's own copy, size and comparison of a list of tasks and of a program; nothing that was there is written. -/
namespace Go.Proofs.YtmgeecdgebemdaaGreatDoor.prg
open Go Go.ChangeShapes Go.WideShapes Go.ChangeAt Go.RowKit Go.Proofs.YtmgeecdgebemdaaGreatDoor.row Go.Proofs.YtmgeecdgebemdaaGreatDoor.val Go.Proofs.YtmgeecdgebemdaaGreatDoor.expr Go.Proofs.YtmgeecdgebemdaaGreatDoor.stm Go.Proofs.YtmgeecdgebemdaaGreatDoor.blk
theorem prg_at {P : List Tk} {k : Nat} (h : k < P.length) : ∃ t, P[k]? = some t := ⟨P[k], by simp [h]⟩
theorem mem_at {P : List Tk} {k : Nat} {t : Tk} (h : P[k]? = some t) : t ∈ P := List.mem_of_getElem? h
end Go.Proofs.YtmgeecdgebemdaaGreatDoor.prg

/- The law's own copy of a program, the sizes and the comparison of lists of tasks and of programs; nothing that was there is written. -/
namespace Go.Proofs.YtmgeecdgebemdaaGreatDoor.prg
open Go Go.ChangeShapes Go.WideShapes Go.ChangeAt Go.RowKit Go.Proofs.YtmgeecdgebemdaaGreatDoor.row Go.Proofs.YtmgeecdgebemdaaGreatDoor.val Go.Proofs.YtmgeecdgebemdaaGreatDoor.expr Go.Proofs.YtmgeecdgebemdaaGreatDoor.stm Go.Proofs.YtmgeecdgebemdaaGreatDoor.blk
end Go.Proofs.YtmgeecdgebemdaaGreatDoor.prg

/- The law's own comparison of tasks and programs; nothing that was there is written. -/
namespace Go.Proofs.YtmgeecdgebemdaaGreatDoor.prg
open Go Go.ChangeShapes Go.WideShapes Go.ChangeAt Go.RowKit Go.Proofs.YtmgeecdgebemdaaGreatDoor.row Go.Proofs.YtmgeecdgebemdaaGreatDoor.val Go.Proofs.YtmgeecdgebemdaaGreatDoor.expr Go.Proofs.YtmgeecdgebemdaaGreatDoor.stm Go.Proofs.YtmgeecdgebemdaaGreatDoor.blk
end Go.Proofs.YtmgeecdgebemdaaGreatDoor.prg

/- Chapter 4's StmtOk of the model: what the plain function says, for every statement; nothing that was there is written. -/
namespace Go.Proofs.YtmgeecdgebemdaaGreatDoor.stm
open Go.ChangeShapes Go.WideShapes Go.ChangeAt Go.RowKit Go.Proofs.YtmgeecdgebemdaaGreatDoor.row Go.Proofs.YtmgeecdgebemdaaGreatDoor.val Go.Proofs.YtmgeecdgebemdaaGreatDoor.expr
end Go.Proofs.YtmgeecdgebemdaaGreatDoor.stm

/- Chapter 5's model: BlockOk, the matching end, EndOf, DepthOf, LongestRun: what the plain relations say, for every list of statements; nothing that was there is written. -/
namespace Go.Proofs.YtmgeecdgebemdaaGreatDoor.blk
open Go Go.ChangeShapes Go.WideShapes Go.ChangeAt Go.RowKit Go.Proofs.YtmgeecdgebemdaaGreatDoor.row Go.Proofs.YtmgeecdgebemdaaGreatDoor.val Go.Proofs.YtmgeecdgebemdaaGreatDoor.expr Go.Proofs.YtmgeecdgebemdaaGreatDoor.stm
end Go.Proofs.YtmgeecdgebemdaaGreatDoor.blk

/- Chapter 6's model: ProgramOk, NextTask: what the plain relations say; nothing that was there is written. -/
namespace Go.Proofs.YtmgeecdgebemdaaGreatDoor.prg
open Go Go.ChangeShapes Go.WideShapes Go.ChangeAt Go.RowKit Go.Proofs.YtmgeecdgebemdaaGreatDoor.row Go.Proofs.YtmgeecdgebemdaaGreatDoor.val Go.Proofs.YtmgeecdgebemdaaGreatDoor.expr Go.Proofs.YtmgeecdgebemdaaGreatDoor.stm Go.Proofs.YtmgeecdgebemdaaGreatDoor.blk
/-- Each task ahead of 'k' is valid. -/
def OkTasks (P : List Tk) (k : Nat) : Prop := ∀ j t, j < k → P[j]? = some t → IsBlk t.b ∧ exprOk t.o t.x t.y = true
theorem OkTasks.zero (P : List Tk) : OkTasks P 0 := fun j t h => by omega
theorem OkTasks.next {P : List Tk} {k : Nat} {t : Tk} (h : OkTasks P k) (ht : P[k]? = some t) (hb : IsBlk t.b) (he : exprOk t.o t.x t.y = true) : OkTasks P (k + 1) := fun j t' hj ht' => by
  by_cases e : j = k
  · subst e; rw [ht] at ht'; cases ht'; exact ⟨hb, he⟩
  · exact h j t' (by omega) ht'
theorem isPrg_iff {P : List Tk} : IsPrg P ↔ (1 ≤ P.length ∧ P.length ≤ 6) ∧ OkTasks P P.length := by
  refine ⟨fun h => ⟨⟨h.1, h.2.1⟩, fun j t _ ht => h.2.2 t (mem_at ht)⟩, fun h => ⟨h.1.1, h.1.2, fun t ht => ?_⟩⟩
  obtain ⟨j, hj⟩ := List.mem_iff_getElem?.1 ht
  exact h.2 j t (List.getElem?_eq_some_iff.1 hj).1 hj
theorem prg_dec (P : List Tk) : ∃ r : Bool, r = true ↔ IsPrg P := by
  rcases Classical.em (IsPrg P) with h | h
  · exact ⟨true, fun _ => h, fun _ => rfl⟩
  · exact ⟨false, fun e => (by cases e), fun e => absurd e h⟩
/-- The program's argument: its block, and what lies behind. -/
abbrev PrgW (w W : World) (a : Option Addr) (n cap : Nat) (P : List Tk) : Prop :=
  W.cell? ⟨w.heap.size, 0, none⟩ = some (.slice a n cap) ∧ TkRow W a n P ∧ Below w.heap.size w W ∧ W.heap.size = w.heap.size + 1
theorem prgW_new (w : World) (a : Option Addr) (n cap : Nat) (P : List Tk) (t : TypeId) (h : TkRow w a n P) : PrgW w (w.alloc (.cells #[.slice a n cap] t)) a n cap P :=
  ⟨(Box.new w #[.slice a n cap] t).cell 0, h.below (below_new w _), below_new w _, by simp⟩
/-- The remainder from 0 on. -/
def nx (v : Int) (n : Nat) : Int := if v.tmod n < 0 then v.tmod n + n else v.tmod n
theorem tmod_bds {v : Int} {n : Nat} (hn : 0 < n) : -(n : Int) < v.tmod n ∧ v.tmod n < n := ⟨Int.lt_tmod_of_pos v (by omega), Int.tmod_lt_of_pos v (by omega)⟩
theorem nx_range {v : Int} {n : Nat} (hn : 0 < n) : 0 ≤ nx v n ∧ nx v n < n := by
  have := tmod_bds (v := v) hn
  unfold nx; split <;> omega
/-- What NextTask must give. -/
def NextIs (P : List Tk) (V : List Int) (i x : Int) : Prop :=
  (∃ (j : Nat) (t : Tk), i = j ∧ P[j]? = some t ∧ IsPrg P ∧ varsOk V = true ∧ x = nx (evalV V t.o t.x t.y) P.length) ∨ (x = -1 ∧ (¬ IsPrg P ∨ varsOk V = false ∨ i < 0 ∨ (P.length : Int) ≤ i))
theorem NextIs.not {P : List Tk} {V : List Int} {i x : Int} (h : NextIs P V i x) (hn : ¬ IsPrg P ∨ varsOk V = false ∨ i < 0 ∨ (P.length : Int) ≤ i) : x = -1 := by
  rcases h with ⟨j, t, rfl, ht, hp, hv, rfl⟩ | ⟨rfl, _⟩
  · have := (List.getElem?_eq_some_iff.1 ht).1
    rcases hn with h | h | h | h
    · exact absurd hp h
    · rw [h] at hv; cases hv
    · omega
    · omega
  · rfl
theorem NextIs.yes {P : List Tk} {V : List Int} {j : Nat} {x : Int} {t : Tk} (h : NextIs P V j x) (hp : IsPrg P) (hv : varsOk V = true) (ht : P[j]? = some t) : x = nx (evalV V t.o t.x t.y) P.length := by
  have := (List.getElem?_eq_some_iff.1 ht).1
  rcases h with ⟨j', t', hj, ht', _, _, rfl⟩ | ⟨_, h⟩
  · obtain rfl : j = j' := by omega
    rw [ht] at ht'; cases ht'; rfl
  · rcases h with h | h | h | h
    · exact absurd hp h
    · rw [h] at hv; cases hv
    · omega
    · omega
end Go.Proofs.YtmgeecdgebemdaaGreatDoor.prg

/- What TaskEffect, SensesOf and ReadSensor must give; what the laws ask of it. Plain mathematics. -/
namespace Go.Proofs.YtmgeecdgebemdaaGreatDoor.exe
open Go Go.Proofs.YtmgeecdgebemdaaGreatDoor.stm Go.Proofs.YtmgeecdgebemdaaGreatDoor.blk Go.Proofs.YtmgeecdgebemdaaGreatDoor.expr Go.Proofs.YtmgeecdgebemdaaGreatDoor.sets Go.Proofs.YtmgeecdgebemdaaGreatDoor.val Go.Proofs.YtmgeecdgebemdaaGreatDoor.prg
/-- Every element is a value of the range. -/
def allV (Y : List Int) : Bool := Y.all isVal
theorem allV_iff (Y : List Int) : allV Y = true ↔ ∀ q ∈ Y, isVal q = true := by simp [allV]
/-- The reading number 'n' by the sensor 'q'. -/
def readS (R : List Int) (q n : Int) : Int := if R.length = 0 ∨ q < 0 ∨ 3 < q ∨ n < 0 then 0 else sat (sat (R.getD (n % R.length).toNat 0) + sat (100 * q))
theorem readS_no {R : List Int} {q n : Int} (h : R.length = 0 ∨ q < 0 ∨ 3 < q ∨ n < 0) : readS R q n = 0 := by unfold readS; rw [if_pos h]
theorem readS_ok {R : List Int} {q n : Int} (h : R.length ≠ 0) (h1 : 0 ≤ q) (h2 : q ≤ 3) (h3 : 0 ≤ n) : readS R q n = sat (sat (R.getD (n % R.length).toNat 0) + sat (100 * q)) := by
  unfold readS; rw [if_neg (by omega)]
theorem isVal_sat (n : Int) : isVal (sat n) = true := isVal_in (sat_bd n).1 (sat_bd n).2
theorem isVal_zero : isVal 0 = true := by decide
theorem readS_val (R : List Int) (q n : Int) : isVal (readS R q n) = true := by
  unfold readS
  split
  · exact isVal_zero
  · exact isVal_sat _
/-- Senses come from the readings, the first one from the number 'at'. -/
def liveSrc (R : List Int) (z : Int) : Int → Nat → Int := fun q n => readS R q (z + n)
theorem liveSrc_val (R : List Int) (z q : Int) (n : Nat) : isVal (liveSrc R z q n) = true := readS_val _ _ _
theorem listSrc_val {Y : List Int} (h : allV Y = true) (q : Int) (n : Nat) : isVal (listSrc Y q n) = true := by
  unfold listSrc
  rw [List.getD_eq_getElem?_getD]
  cases hn : Y[n]? with
  | none => exact isVal_zero
  | some v => exact (allV_iff Y).1 h v (List.mem_of_getElem? hn)
/-- The arguments of TaskEffect and SensesOf are valid, and this is the task and its tree. -/
def TaskAt (P : List Tk) (V Y : List Int) (i : Int) (t : Tk) (T : Fst) : Prop := IsPrg P ∧ varsOk V = true ∧ allV Y = true ∧ ∃ j : Nat, i = j ∧ P[j]? = some t ∧ Par t.b 0 t.b.length T
theorem TaskAt.unique {P : List Tk} {V Y : List Int} {i : Int} {t t' : Tk} {T T' : Fst} (h : TaskAt P V Y i t T) (h' : TaskAt P V Y i t' T') : t = t' ∧ T = T' := by
  obtain ⟨_, _, _, j, rfl, h1, h2⟩ := h
  obtain ⟨_, _, _, j', e, h3, h4⟩ := h'
  obtain rfl : j = j' := by omega
  rw [h1] at h3; cases h3
  exact ⟨rfl, h2.unique h4⟩
theorem TaskAt.blk {P : List Tk} {V Y : List Int} {i : Int} {t : Tk} {T : Fst} (h : TaskAt P V Y i t T) : IsBlk t.b ∧ exprOk t.o t.x t.y = true := by
  obtain ⟨hp, _, _, j, _, h1, _⟩ := h
  exact hp.2.2 t (List.mem_of_getElem? h1)
theorem taskAt_ex {P : List Tk} {V Y : List Int} {j : Nat} (hp : IsPrg P) (hV : varsOk V = true) (hY : allV Y = true) (hj : j < P.length) : ∃ t T, P[j]? = some t ∧ TaskAt P V Y j t T := by
  obtain ⟨t, ht⟩ : ∃ t, P[j]? = some t := ⟨P[j], by simp [hj]⟩
  obtain ⟨T, hT⟩ := par_ex (hp.2.2 t (List.mem_of_getElem? ht)).1
  exact ⟨t, T, ht, hp, hV, hY, j, rfl, ht, hT⟩
/-- The effect of a task. -/
structure Eff where
  (V S : List Int)
  (N U : Int)
def zeroEff : Eff := ⟨[], [], 0, 0⟩
def effOf (P : List Tk) (t : Tk) (x : Sx) : Eff := ⟨x.V, x.S, nx (evalV x.V t.o t.x t.y) P.length, x.U.length⟩
def NotAt (P : List Tk) (V Y : List Int) (i : Int) : Prop := ¬ IsPrg P ∨ varsOk V = false ∨ allV Y = false ∨ i < 0 ∨ (P.length : Int) ≤ i
theorem at_or (P : List Tk) (V Y : List Int) (i : Int) : NotAt P V Y i ∨ ∃ t T, TaskAt P V Y i t T := by
  rcases Classical.em (NotAt P V Y i) with h | h
  · exact .inl h
  · right
    have h1 : IsPrg P := Classical.byContradiction fun e => h (.inl e)
    have h2 : varsOk V = true := by cases e : varsOk V; exact absurd (.inr (.inl e)) h; rfl
    have h3 : allV Y = true := by cases e : allV Y; exact absurd (.inr (.inr (.inl e))) h; rfl
    have h4 : 0 ≤ i := Int.not_lt.1 fun e => h (.inr (.inr (.inr (.inl e))))
    have h5 : i < P.length := Int.not_le.1 fun e => h (.inr (.inr (.inr (.inr e))))
    obtain ⟨j, rfl⟩ : ∃ j : Nat, i = j := ⟨i.toNat, by omega⟩
    obtain ⟨t, T, _, hT⟩ := taskAt_ex h1 h2 h3 (show j < P.length by omega)
    exact ⟨t, T, hT⟩
theorem TaskAt.not {P : List Tk} {V Y : List Int} {i : Int} {t : Tk} {T : Fst} (h : TaskAt P V Y i t T) (hn : NotAt P V Y i) : False := by
  obtain ⟨h1, h2, h3, j, rfl, h4, _⟩ := h
  have hl := (List.getElem?_eq_some_iff.1 h4).1
  rcases hn with e | e | e | e | e
  · exact e h1
  · rw [h2] at e; cases e
  · rw [h3] at e; cases e
  · omega
  · omega
/-- What TaskEffect must give. -/
def EffIs (P : List Tk) (V Y : List Int) (i : Int) (r : Bool) (E : Eff) : Prop :=
  (r = false ∧ E = zeroEff ∧ NotAt P V Y i) ∨ (r = true ∧ ∃ t T, TaskAt P V Y i t T ∧ E = effOf P t (exec (listSrc Y) T ⟨V, [], []⟩))
theorem effIs_ex (P : List Tk) (V Y : List Int) (i : Int) : ∃ r E, EffIs P V Y i r E := by
  rcases at_or P V Y i with h | ⟨t, T, h⟩
  · exact ⟨false, zeroEff, .inl ⟨rfl, rfl, h⟩⟩
  · exact ⟨true, _, .inr ⟨rfl, t, T, h, rfl⟩⟩
theorem EffIs.unique {P : List Tk} {V Y : List Int} {i : Int} {r r' : Bool} {E E' : Eff} (h : EffIs P V Y i r E) (h' : EffIs P V Y i r' E') : r = r' ∧ E = E' := by
  rcases h with ⟨rfl, rfl, h⟩ | ⟨rfl, t, T, h, rfl⟩ <;> rcases h' with ⟨rfl, rfl, h'⟩ | ⟨rfl, t', T', h', rfl⟩
  · exact ⟨rfl, rfl⟩
  · exact (h'.not h).elim
  · exact (h.not h').elim
  · obtain ⟨rfl, rfl⟩ := h.unique h'; exact ⟨rfl, rfl⟩
/-- An execution of a valid block sends and senses no more than 3000 values. -/
theorem exec_small {src : Int → Nat → Int} {L : List Sm} (hL : IsBlk L) {T : Fst} (hT : Par L 0 L.length T) (V : List Int) : (exec src T ⟨V, [], []⟩).S.length + (exec src T ⟨V, [], []⟩).U.length ≤ 3000 := by
  have h1 := exec_tot src T ⟨V, [], []⟩
  have h2 := runs_small hL hT.runs (Nat.le_refl _)
  simp [tot] at h1
  omega
theorem TaskAt.small {P : List Tk} {V Y : List Int} {i : Int} {t : Tk} {T : Fst} (h : TaskAt P V Y i t T) (src : Int → Nat → Int) : (exec src T ⟨V, [], []⟩).S.length + (exec src T ⟨V, [], []⟩).U.length ≤ 3000 := by
  have hb := h.blk.1
  obtain ⟨_, _, _, j, _, _, hT⟩ := h
  exact exec_small hb hT V
theorem TaskAt.good {P : List Tk} {V Y : List Int} {i : Int} {t : Tk} {T : Fst} (h : TaskAt P V Y i t T) {src : Int → Nat → Int} (hs : ∀ q n, isVal (src q n) = true) : Good (exec src T ⟨V, [], []⟩) := by
  obtain ⟨_, hV, _⟩ := h
  exact exec_good hs T ⟨hV, (fun q hq => by cases hq), (fun q hq => by cases hq)⟩

/-! What the laws ask. -/
/-- An effect of valid arguments. -/
theorem EffIs.at {P : List Tk} {V Y : List Int} {j : Nat} {t : Tk} {T : Fst} (h : TaskAt P V Y j t T) {r : Bool} {E : Eff} (hE : EffIs P V Y j r E) : r = true ∧ E = effOf P t (exec (listSrc Y) T ⟨V, [], []⟩) := by
  rcases hE with ⟨_, _, e⟩ | ⟨rfl, t', T', h', rfl⟩
  · exact (h.not e).elim
  · obtain ⟨rfl, rfl⟩ := h.unique h'; exact ⟨rfl, rfl⟩
end Go.Proofs.YtmgeecdgebemdaaGreatDoor.exe
