/- Several texts in one: ExeC. -/
import Derived.Test.YtekdnhhmiabngaaGHub7
import Derived.Test.YtekdnhhmiabngaaGHub8

/- What TaskEffect, SensesOf and ReadSensor must give; what the laws ask of it. Plain mathematics. -/
namespace Go.Proofs.Ytekdnhhmiabngaa.exe
open Go Go.Proofs.Ytekdnhhmiabngaa.stm Go.Proofs.Ytekdnhhmiabngaa.blk Go.Proofs.Ytekdnhhmiabngaa.expr Go.Proofs.Ytekdnhhmiabngaa.sets Go.Proofs.Ytekdnhhmiabngaa.val Go.Proofs.Ytekdnhhmiabngaa.prg

/-- Every element is a value of the range. -/
def allV (Y : List Int) : Bool := Y.all isVal
theorem allV_iff (Y : List Int) : allV Y = true ↔ ∀ q ∈ Y, isVal q = true := by simp [allV]
/-- The reading number 'n' by the sensor 'q'. -/
def readS (R : List Int) (q n : Int) : Int := if R.length = 0 ∨ q < 0 ∨ 3 < q ∨ n < 0 then 0 else sat (sat (R.getD (n % R.length).toNat 0) + sat (100 * q))
theorem readS_no {R : List Int} {q n : Int} (h : R.length = 0 ∨ q < 0 ∨ 3 < q ∨ n < 0) : readS R q n = 0 := by unfold readS; rw [if_pos h]
theorem readS_ok {R : List Int} {q n : Int} (h : R.length ≠ 0) (h1 : 0 ≤ q) (h2 : q ≤ 3) (h3 : 0 ≤ n) : readS R q n = sat (sat (R.getD (n % R.length).toNat 0) + sat (100 * q)) := by
  unfold readS; rw [if_neg (by omega)]
theorem isVal_sat (n : Int) : isVal (sat n) = true := isVal_in (sat_bd n).1 (sat_bd n).2
theorem isVal_zero : isVal 0 = true := by decide
theorem readS_val (R : List Int) (q n : Int) : isVal (readS R q n) = true := by
  unfold readS
  split
  · exact isVal_zero
  · exact isVal_sat _
/-- Senses come from the readings, the first one from the number 'at'. -/
def liveSrc (R : List Int) (z : Int) : Int → Nat → Int := fun q n => readS R q (z + n)
theorem liveSrc_val (R : List Int) (z q : Int) (n : Nat) : isVal (liveSrc R z q n) = true := readS_val _ _ _
theorem listSrc_val {Y : List Int} (h : allV Y = true) (q : Int) (n : Nat) : isVal (listSrc Y q n) = true := by
  unfold listSrc
  rw [List.getD_eq_getElem?_getD]
  cases hn : Y[n]? with
  | none => exact isVal_zero
  | some v => exact (allV_iff Y).1 h v (List.mem_of_getElem? hn)
/-- The arguments of TaskEffect and SensesOf are valid, and this is the task and its tree. -/
def TaskAt (P : List Tk) (V Y : List Int) (i : Int) (t : Tk) (T : Fst) : Prop := IsPrg P ∧ varsOk V = true ∧ allV Y = true ∧ ∃ j : Nat, i = j ∧ P[j]? = some t ∧ Par t.b 0 t.b.length T
theorem TaskAt.unique {P : List Tk} {V Y : List Int} {i : Int} {t t' : Tk} {T T' : Fst} (h : TaskAt P V Y i t T) (h' : TaskAt P V Y i t' T') : t = t' ∧ T = T' := by
  obtain ⟨_, _, _, j, rfl, h1, h2⟩ := h
  obtain ⟨_, _, _, j', e, h3, h4⟩ := h'
  obtain rfl : j = j' := by omega
  rw [h1] at h3; cases h3
  exact ⟨rfl, h2.unique h4⟩
theorem TaskAt.blk {P : List Tk} {V Y : List Int} {i : Int} {t : Tk} {T : Fst} (h : TaskAt P V Y i t T) : IsBlk t.b ∧ exprOk t.o t.x t.y = true := by
  obtain ⟨hp, _, _, j, _, h1, _⟩ := h
  exact hp.2.2 t (List.mem_of_getElem? h1)
theorem taskAt_ex {P : List Tk} {V Y : List Int} {j : Nat} (hp : IsPrg P) (hV : varsOk V = true) (hY : allV Y = true) (hj : j < P.length) : ∃ t T, P[j]? = some t ∧ TaskAt P V Y j t T := by
  obtain ⟨t, ht⟩ : ∃ t, P[j]? = some t := ⟨P[j], by simp [hj]⟩
  obtain ⟨T, hT⟩ := par_ex (hp.2.2 t (List.mem_of_getElem? ht)).1
  exact ⟨t, T, ht, hp, hV, hY, j, rfl, ht, hT⟩
/-- The effect of a task. -/
structure Eff where
  (V S : List Int)
  (N U : Int)
def zeroEff : Eff := ⟨[], [], 0, 0⟩
def effOf (P : List Tk) (t : Tk) (x : Sx) : Eff := ⟨x.V, x.S, nx (evalV x.V t.o t.x t.y) P.length, x.U.length⟩
def NotAt (P : List Tk) (V Y : List Int) (i : Int) : Prop := ¬ IsPrg P ∨ varsOk V = false ∨ allV Y = false ∨ i < 0 ∨ (P.length : Int) ≤ i
theorem at_or (P : List Tk) (V Y : List Int) (i : Int) : NotAt P V Y i ∨ ∃ t T, TaskAt P V Y i t T := by
  rcases Classical.em (NotAt P V Y i) with h | h
  · exact .inl h
  · right
    have h1 : IsPrg P := Classical.byContradiction fun e => h (.inl e)
    have h2 : varsOk V = true := by cases e : varsOk V; exact absurd (.inr (.inl e)) h; rfl
    have h3 : allV Y = true := by cases e : allV Y; exact absurd (.inr (.inr (.inl e))) h; rfl
    have h4 : 0 ≤ i := Int.not_lt.1 fun e => h (.inr (.inr (.inr (.inl e))))
    have h5 : i < P.length := Int.not_le.1 fun e => h (.inr (.inr (.inr (.inr e))))
    obtain ⟨j, rfl⟩ : ∃ j : Nat, i = j := ⟨i.toNat, by omega⟩
    obtain ⟨t, T, _, hT⟩ := taskAt_ex h1 h2 h3 (show j < P.length by omega)
    exact ⟨t, T, hT⟩
theorem TaskAt.not {P : List Tk} {V Y : List Int} {i : Int} {t : Tk} {T : Fst} (h : TaskAt P V Y i t T) (hn : NotAt P V Y i) : False := by
  obtain ⟨h1, h2, h3, j, rfl, h4, _⟩ := h
  have hl := (List.getElem?_eq_some_iff.1 h4).1
  rcases hn with e | e | e | e | e
  · exact e h1
  · rw [h2] at e; cases e
  · rw [h3] at e; cases e
  · omega
  · omega
/-- What TaskEffect must give. -/
def EffIs (P : List Tk) (V Y : List Int) (i : Int) (r : Bool) (E : Eff) : Prop :=
  (r = false ∧ E = zeroEff ∧ NotAt P V Y i) ∨ (r = true ∧ ∃ t T, TaskAt P V Y i t T ∧ E = effOf P t (exec (listSrc Y) T ⟨V, [], []⟩))
theorem effIs_ex (P : List Tk) (V Y : List Int) (i : Int) : ∃ r E, EffIs P V Y i r E := by
  rcases at_or P V Y i with h | ⟨t, T, h⟩
  · exact ⟨false, zeroEff, .inl ⟨rfl, rfl, h⟩⟩
  · exact ⟨true, _, .inr ⟨rfl, t, T, h, rfl⟩⟩
theorem EffIs.unique {P : List Tk} {V Y : List Int} {i : Int} {r r' : Bool} {E E' : Eff} (h : EffIs P V Y i r E) (h' : EffIs P V Y i r' E') : r = r' ∧ E = E' := by
  rcases h with ⟨rfl, rfl, h⟩ | ⟨rfl, t, T, h, rfl⟩ <;> rcases h' with ⟨rfl, rfl, h'⟩ | ⟨rfl, t', T', h', rfl⟩
  · exact ⟨rfl, rfl⟩
  · exact (h'.not h).elim
  · exact (h.not h').elim
  · obtain ⟨rfl, rfl⟩ := h.unique h'; exact ⟨rfl, rfl⟩
/-- What SensesOf must give. -/
def SensIs (P : List Tk) (V R : List Int) (i z : Int) (U : List Int) : Prop :=
  (U = [] ∧ (NotAt P V R i ∨ z < 0 ∨ 1000000 < z)) ∨ ((0 ≤ z ∧ z ≤ 1000000) ∧ ∃ t T, TaskAt P V R i t T ∧ U = (exec (liveSrc R z) T ⟨V, [], []⟩).U)
theorem sensIs_ex (P : List Tk) (V R : List Int) (i z : Int) : ∃ U, SensIs P V R i z U := by
  by_cases hz : 0 ≤ z ∧ z ≤ 1000000
  · rcases at_or P V R i with h | ⟨t, T, h⟩
    · exact ⟨[], .inl ⟨rfl, .inl h⟩⟩
    · exact ⟨_, .inr ⟨hz, t, T, h, rfl⟩⟩
  · exact ⟨[], .inl ⟨rfl, .inr (by omega)⟩⟩
theorem SensIs.unique {P : List Tk} {V R : List Int} {i z : Int} {U U' : List Int} (h : SensIs P V R i z U) (h' : SensIs P V R i z U') : U = U' := by
  rcases h with ⟨rfl, h⟩ | ⟨hz, t, T, h, rfl⟩ <;> rcases h' with ⟨rfl, h'⟩ | ⟨hz', t', T', h', rfl⟩
  · rfl
  · rcases h with h | h | h
    · exact (h'.not h).elim
    · omega
    · omega
  · rcases h' with h' | h' | h'
    · exact (h.not h').elim
    · omega
    · omega
  · obtain ⟨rfl, rfl⟩ := h.unique h'; rfl
/-- An execution of a valid block sends and senses no more than 3000 values. -/
theorem exec_small {src : Int → Nat → Int} {L : List Sm} (hL : IsBlk L) {T : Fst} (hT : Par L 0 L.length T) (V : List Int) : (exec src T ⟨V, [], []⟩).S.length + (exec src T ⟨V, [], []⟩).U.length ≤ 3000 := by
  have h1 := exec_tot src T ⟨V, [], []⟩
  have h2 := runs_small hL hT.runs (Nat.le_refl _)
  simp [tot] at h1
  omega
theorem TaskAt.small {P : List Tk} {V Y : List Int} {i : Int} {t : Tk} {T : Fst} (h : TaskAt P V Y i t T) (src : Int → Nat → Int) : (exec src T ⟨V, [], []⟩).S.length + (exec src T ⟨V, [], []⟩).U.length ≤ 3000 := by
  have hb := h.blk.1
  obtain ⟨_, _, _, j, _, _, hT⟩ := h
  exact exec_small hb hT V
theorem TaskAt.good {P : List Tk} {V Y : List Int} {i : Int} {t : Tk} {T : Fst} (h : TaskAt P V Y i t T) {src : Int → Nat → Int} (hs : ∀ q n, isVal (src q n) = true) : Good (exec src T ⟨V, [], []⟩) := by
  obtain ⟨_, hV, _⟩ := h
  exact exec_good hs T ⟨hV, (fun q hq => by cases hq), (fun q hq => by cases hq)⟩

/-! What the laws ask. -/
/-- A task that senses the same values does the same, whatever stands behind them. -/
theorem senses_same {P : List Tk} {V R U W : List Int} {z : Int} (hp : IsPrg P) (hV : varsOk V = true) (hU : SensIs P V R 0 z U) (hz : 0 ≤ z ∧ z ≤ 1000000) (hR : allV R = true) (hW : allV W = true) {r : Bool} {E : Eff} (hE : EffIs P V (U ++ W) 0 r E) :
    r = true ∧ E.U = U.length ∧ allV U = true ∧ ∀ r' E', EffIs P V U 0 r' E' → E' = E := by
  obtain ⟨t, T, ht, hT⟩ := taskAt_ex (j := 0) hp hV hR (by have := hp.1; omega)
  have hUv : allV U = true ∧ U = (exec (liveSrc R z) T ⟨V, [], []⟩).U := by
    rcases hU with ⟨_, h⟩ | ⟨_, t', T', h, rfl⟩
    · rcases h with h | h | h
      · exact (hT.not h).elim
      · omega
      · omega
    · obtain ⟨rfl, rfl⟩ := hT.unique h
      exact ⟨(allV_iff _).2 (hT.good (liveSrc_val R z)).2.2, rfl⟩
  have key : ∀ X : List Int, allV X = true → ∀ r' E', EffIs P V (U ++ X) 0 r' E' → r' = true ∧ E' = effOf P t (exec (liveSrc R z) T ⟨V, [], []⟩) := by
    intro X hX r' E' h
    have hUX : allV (U ++ X) = true := (allV_iff _).2 fun q hq => (List.mem_append.1 hq).elim ((allV_iff _).1 hUv.1 q) ((allV_iff _).1 hX q)
    have hT2 : TaskAt P V (U ++ X) 0 t T := ⟨hp, hV, hUX, hT.2.2.2⟩
    rcases h with ⟨_, _, h⟩ | ⟨rfl, t', T', h, rfl⟩
    · exact (hT2.not h).elim
    · obtain ⟨rfl, rfl⟩ := hT2.unique h
      rw [exec_src T ⟨V, [], []⟩ (show (exec (liveSrc R z) T ⟨V, [], []⟩).U <+: U ++ X by rw [← hUv.2]; exact List.prefix_append _ _)]
      exact ⟨rfl, rfl⟩
  obtain ⟨h1, h2⟩ := key W hW r E hE
  refine ⟨h1, ?_, hUv.1, fun r' E' h' => ?_⟩
  · rw [h2, hUv.2]; rfl
  · have := key [] rfl r' E' (by rw [List.append_nil]; exact h')
    rw [this.2, h2]
/-- An effect of valid arguments. -/
theorem EffIs.at {P : List Tk} {V Y : List Int} {j : Nat} {t : Tk} {T : Fst} (h : TaskAt P V Y j t T) {r : Bool} {E : Eff} (hE : EffIs P V Y j r E) : r = true ∧ E = effOf P t (exec (listSrc Y) T ⟨V, [], []⟩) := by
  rcases hE with ⟨_, _, e⟩ | ⟨rfl, t', T', h', rfl⟩
  · exact (h.not e).elim
  · obtain ⟨rfl, rfl⟩ := h.unique h'; exact ⟨rfl, rfl⟩
/-- Variables that may not be written keep their value. -/
theorem eff_writes {P : List Tk} {V Y : List Int} {j : Nat} {t : Tk} {T : Fst} (h : TaskAt P V Y j t T) {r : Bool} {E : Eff} (hE : EffIs P V Y j r E) : r = true ∧ E.V.length = 8 ∧ ∀ v : Nat, ¬ MayTo t.b t.b.length v → E.V[v]? = V[v]? := by
  obtain ⟨rfl, rfl⟩ := hE.at h
  have hb := h.blk.1
  obtain ⟨_, hV, _, k, _, _, hT⟩ := h
  refine ⟨rfl, ?_, fun v hv => ?_⟩
  · show (exec (listSrc Y) T ⟨V, [], []⟩).V.length = 8
    rw [exec_vlen]; exact ((varsOk_iff V).1 hV).1
  · show (exec (listSrc Y) T ⟨V, [], []⟩).V[v]? = V[v]?
    refine exec_unwritten _ T _ (hT.vld hb) v fun hw => hv ?_
    obtain ⟨i, _, h2, h3⟩ := hT.wrT hw
    exact ⟨i, h2, h3⟩
/-- No execution sends or senses more than the longest run has statements. -/
theorem eff_longest {P : List Tk} {V Y : List Int} {j : Nat} {t : Tk} {T : Fst} (h : TaskAt P V Y j t T) {r : Bool} {E : Eff} (hE : EffIs P V Y j r E) {x : Int} (hx : LongIs t.b x) : r = true ∧ (E.S.length : Int) + E.U ≤ x := by
  obtain ⟨rfl, rfl⟩ := hE.at h
  have hb := h.blk
  obtain ⟨_, hV, _, k, _, _, hT⟩ := h
  refine ⟨rfl, ?_⟩
  rcases hx with ⟨_, hx⟩ | ⟨_, hx⟩
  · rw [hx.unique hT.runs]
    have := exec_tot (listSrc Y) T ⟨V, [], []⟩
    simp [tot] at this
    exact this
  · exact absurd hb.1 hx
end Go.Proofs.Ytekdnhhmiabngaa.exe
