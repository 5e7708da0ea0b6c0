/- Several texts in one: ExeC ExeN BlkC ReadC ObsA. -/
import Derived.Test.YtlicadaecfgklaaGreatDoorGSig3
import Derived.Test.YtlicadaecfgklaaGreatDoorGSig5
import Derived.Test.YtlicadaecfgklaaGreatDoorGSig1
import Derived.Test.YtlicadaecfgklaaGreatDoorGSig2
import Derived.Deep.AppendLies
import Derived.WalkSpells

/- What TaskEffect, SensesOf and ReadSensor must give; what the laws ask of it. Plain mathematics. -/
namespace Go.Proofs.YtlicadaecfgklaaGreatDoor.exe
open Go Go.Proofs.YtlicadaecfgklaaGreatDoor.stm Go.Proofs.YtlicadaecfgklaaGreatDoor.blk Go.Proofs.YtlicadaecfgklaaGreatDoor.expr Go.Proofs.YtlicadaecfgklaaGreatDoor.sets Go.Proofs.YtlicadaecfgklaaGreatDoor.val Go.Proofs.YtlicadaecfgklaaGreatDoor.prg

/-- Every element is a value of the range. -/
def allV (Y : List Int) : Bool := Y.all isVal
theorem allV_iff (Y : List Int) : allV Y = true ↔ ∀ q ∈ Y, isVal q = true := by simp [allV]
/-- The reading number 'n' by the sensor 'q'. -/
def readS (R : List Int) (q n : Int) : Int := if R.length = 0 ∨ q < 0 ∨ 3 < q ∨ n < 0 then 0 else sat (sat (R.getD (n % R.length).toNat 0) + sat (100 * q))
theorem readS_no {R : List Int} {q n : Int} (h : R.length = 0 ∨ q < 0 ∨ 3 < q ∨ n < 0) : readS R q n = 0 := by unfold readS; rw [if_pos h]
theorem readS_ok {R : List Int} {q n : Int} (h : R.length ≠ 0) (h1 : 0 ≤ q) (h2 : q ≤ 3) (h3 : 0 ≤ n) : readS R q n = sat (sat (R.getD (n % R.length).toNat 0) + sat (100 * q)) := by
  unfold readS; rw [if_neg (by omega)]
theorem isVal_sat (n : Int) : isVal (sat n) = true := isVal_in (sat_bd n).1 (sat_bd n).2
theorem isVal_zero : isVal 0 = true := by decide
theorem readS_val (R : List Int) (q n : Int) : isVal (readS R q n) = true := by
  unfold readS
  split
  · exact isVal_zero
  · exact isVal_sat _
/-- Senses come from the readings, the first one from the number 'at'. -/
def liveSrc (R : List Int) (z : Int) : Int → Nat → Int := fun q n => readS R q (z + n)
theorem liveSrc_val (R : List Int) (z q : Int) (n : Nat) : isVal (liveSrc R z q n) = true := readS_val _ _ _
theorem listSrc_val {Y : List Int} (h : allV Y = true) (q : Int) (n : Nat) : isVal (listSrc Y q n) = true := by
  unfold listSrc
  rw [List.getD_eq_getElem?_getD]
  cases hn : Y[n]? with
  | none => exact isVal_zero
  | some v => exact (allV_iff Y).1 h v (List.mem_of_getElem? hn)
/-- The arguments of TaskEffect and SensesOf are valid, and this is the task and its tree. -/
def TaskAt (P : List Tk) (V Y : List Int) (i : Int) (t : Tk) (T : Fst) : Prop := IsPrg P ∧ varsOk V = true ∧ allV Y = true ∧ ∃ j : Nat, i = j ∧ P[j]? = some t ∧ Par t.b 0 t.b.length T
theorem TaskAt.unique {P : List Tk} {V Y : List Int} {i : Int} {t t' : Tk} {T T' : Fst} (h : TaskAt P V Y i t T) (h' : TaskAt P V Y i t' T') : t = t' ∧ T = T' := by
  obtain ⟨_, _, _, j, rfl, h1, h2⟩ := h
  obtain ⟨_, _, _, j', e, h3, h4⟩ := h'
  obtain rfl : j = j' := by omega
  rw [h1] at h3; cases h3
  exact ⟨rfl, h2.unique h4⟩
theorem TaskAt.blk {P : List Tk} {V Y : List Int} {i : Int} {t : Tk} {T : Fst} (h : TaskAt P V Y i t T) : IsBlk t.b ∧ exprOk t.o t.x t.y = true := by
  obtain ⟨hp, _, _, j, _, h1, _⟩ := h
  exact hp.2.2 t (List.mem_of_getElem? h1)
theorem taskAt_ex {P : List Tk} {V Y : List Int} {j : Nat} (hp : IsPrg P) (hV : varsOk V = true) (hY : allV Y = true) (hj : j < P.length) : ∃ t T, P[j]? = some t ∧ TaskAt P V Y j t T := by
  obtain ⟨t, ht⟩ : ∃ t, P[j]? = some t := ⟨P[j], by simp [hj]⟩
  obtain ⟨T, hT⟩ := par_ex (hp.2.2 t (List.mem_of_getElem? ht)).1
  exact ⟨t, T, ht, hp, hV, hY, j, rfl, ht, hT⟩
/-- The effect of a task. -/
structure Eff where
  (V S : List Int)
  (N U : Int)
def zeroEff : Eff := ⟨[], [], 0, 0⟩
def effOf (P : List Tk) (t : Tk) (x : Sx) : Eff := ⟨x.V, x.S, nx (evalV x.V t.o t.x t.y) P.length, x.U.length⟩
def NotAt (P : List Tk) (V Y : List Int) (i : Int) : Prop := ¬ IsPrg P ∨ varsOk V = false ∨ allV Y = false ∨ i < 0 ∨ (P.length : Int) ≤ i
theorem at_or (P : List Tk) (V Y : List Int) (i : Int) : NotAt P V Y i ∨ ∃ t T, TaskAt P V Y i t T := by
  rcases Classical.em (NotAt P V Y i) with h | h
  · exact .inl h
  · right
    have h1 : IsPrg P := Classical.byContradiction fun e => h (.inl e)
    have h2 : varsOk V = true := by cases e : varsOk V; exact absurd (.inr (.inl e)) h; rfl
    have h3 : allV Y = true := by cases e : allV Y; exact absurd (.inr (.inr (.inl e))) h; rfl
    have h4 : 0 ≤ i := Int.not_lt.1 fun e => h (.inr (.inr (.inr (.inl e))))
    have h5 : i < P.length := Int.not_le.1 fun e => h (.inr (.inr (.inr (.inr e))))
    obtain ⟨j, rfl⟩ : ∃ j : Nat, i = j := ⟨i.toNat, by omega⟩
    obtain ⟨t, T, _, hT⟩ := taskAt_ex h1 h2 h3 (show j < P.length by omega)
    exact ⟨t, T, hT⟩
theorem TaskAt.not {P : List Tk} {V Y : List Int} {i : Int} {t : Tk} {T : Fst} (h : TaskAt P V Y i t T) (hn : NotAt P V Y i) : False := by
  obtain ⟨h1, h2, h3, j, rfl, h4, _⟩ := h
  have hl := (List.getElem?_eq_some_iff.1 h4).1
  rcases hn with e | e | e | e | e
  · exact e h1
  · rw [h2] at e; cases e
  · rw [h3] at e; cases e
  · omega
  · omega
/-- What TaskEffect must give. -/
def EffIs (P : List Tk) (V Y : List Int) (i : Int) (r : Bool) (E : Eff) : Prop :=
  (r = false ∧ E = zeroEff ∧ NotAt P V Y i) ∨ (r = true ∧ ∃ t T, TaskAt P V Y i t T ∧ E = effOf P t (exec (listSrc Y) T ⟨V, [], []⟩))
theorem effIs_ex (P : List Tk) (V Y : List Int) (i : Int) : ∃ r E, EffIs P V Y i r E := by
  rcases at_or P V Y i with h | ⟨t, T, h⟩
  · exact ⟨false, zeroEff, .inl ⟨rfl, rfl, h⟩⟩
  · exact ⟨true, _, .inr ⟨rfl, t, T, h, rfl⟩⟩
theorem EffIs.unique {P : List Tk} {V Y : List Int} {i : Int} {r r' : Bool} {E E' : Eff} (h : EffIs P V Y i r E) (h' : EffIs P V Y i r' E') : r = r' ∧ E = E' := by
  rcases h with ⟨rfl, rfl, h⟩ | ⟨rfl, t, T, h, rfl⟩ <;> rcases h' with ⟨rfl, rfl, h'⟩ | ⟨rfl, t', T', h', rfl⟩
  · exact ⟨rfl, rfl⟩
  · exact (h'.not h).elim
  · exact (h.not h').elim
  · obtain ⟨rfl, rfl⟩ := h.unique h'; exact ⟨rfl, rfl⟩
/-- What SensesOf must give. -/
def SensIs (P : List Tk) (V R : List Int) (i z : Int) (U : List Int) : Prop :=
  (U = [] ∧ (NotAt P V R i ∨ z < 0 ∨ 1000000 < z)) ∨ ((0 ≤ z ∧ z ≤ 1000000) ∧ ∃ t T, TaskAt P V R i t T ∧ U = (exec (liveSrc R z) T ⟨V, [], []⟩).U)
theorem sensIs_ex (P : List Tk) (V R : List Int) (i z : Int) : ∃ U, SensIs P V R i z U := by
  by_cases hz : 0 ≤ z ∧ z ≤ 1000000
  · rcases at_or P V R i with h | ⟨t, T, h⟩
    · exact ⟨[], .inl ⟨rfl, .inl h⟩⟩
    · exact ⟨_, .inr ⟨hz, t, T, h, rfl⟩⟩
  · exact ⟨[], .inl ⟨rfl, .inr (by omega)⟩⟩
theorem SensIs.unique {P : List Tk} {V R : List Int} {i z : Int} {U U' : List Int} (h : SensIs P V R i z U) (h' : SensIs P V R i z U') : U = U' := by
  rcases h with ⟨rfl, h⟩ | ⟨hz, t, T, h, rfl⟩ <;> rcases h' with ⟨rfl, h'⟩ | ⟨hz', t', T', h', rfl⟩
  · rfl
  · rcases h with h | h | h
    · exact (h'.not h).elim
    · omega
    · omega
  · rcases h' with h' | h' | h'
    · exact (h.not h').elim
    · omega
    · omega
  · obtain ⟨rfl, rfl⟩ := h.unique h'; rfl
/-- An execution of a valid block sends and senses no more than 3000 values. -/
theorem exec_small {src : Int → Nat → Int} {L : List Sm} (hL : IsBlk L) {T : Fst} (hT : Par L 0 L.length T) (V : List Int) : (exec src T ⟨V, [], []⟩).S.length + (exec src T ⟨V, [], []⟩).U.length ≤ 3000 := by
  have h1 := exec_tot src T ⟨V, [], []⟩
  have h2 := runs_small hL hT.runs (Nat.le_refl _)
  simp [tot] at h1
  omega
theorem TaskAt.small {P : List Tk} {V Y : List Int} {i : Int} {t : Tk} {T : Fst} (h : TaskAt P V Y i t T) (src : Int → Nat → Int) : (exec src T ⟨V, [], []⟩).S.length + (exec src T ⟨V, [], []⟩).U.length ≤ 3000 := by
  have hb := h.blk.1
  obtain ⟨_, _, _, j, _, _, hT⟩ := h
  exact exec_small hb hT V
theorem TaskAt.good {P : List Tk} {V Y : List Int} {i : Int} {t : Tk} {T : Fst} (h : TaskAt P V Y i t T) {src : Int → Nat → Int} (hs : ∀ q n, isVal (src q n) = true) : Good (exec src T ⟨V, [], []⟩) := by
  obtain ⟨_, hV, _⟩ := h
  exact exec_good hs T ⟨hV, (fun q hq => by cases hq), (fun q hq => by cases hq)⟩

/-! What the laws ask. -/
/-- A task that senses the same values does the same, whatever stands behind them. -/
theorem senses_same {P : List Tk} {V R U W : List Int} {z : Int} (hp : IsPrg P) (hV : varsOk V = true) (hU : SensIs P V R 0 z U) (hz : 0 ≤ z ∧ z ≤ 1000000) (hR : allV R = true) (hW : allV W = true) {r : Bool} {E : Eff} (hE : EffIs P V (U ++ W) 0 r E) :
    r = true ∧ E.U = U.length ∧ allV U = true ∧ ∀ r' E', EffIs P V U 0 r' E' → E' = E := by
  obtain ⟨t, T, ht, hT⟩ := taskAt_ex (j := 0) hp hV hR (by have := hp.1; omega)
  have hUv : allV U = true ∧ U = (exec (liveSrc R z) T ⟨V, [], []⟩).U := by
    rcases hU with ⟨_, h⟩ | ⟨_, t', T', h, rfl⟩
    · rcases h with h | h | h
      · exact (hT.not h).elim
      · omega
      · omega
    · obtain ⟨rfl, rfl⟩ := hT.unique h
      exact ⟨(allV_iff _).2 (hT.good (liveSrc_val R z)).2.2, rfl⟩
  have key : ∀ X : List Int, allV X = true → ∀ r' E', EffIs P V (U ++ X) 0 r' E' → r' = true ∧ E' = effOf P t (exec (liveSrc R z) T ⟨V, [], []⟩) := by
    intro X hX r' E' h
    have hUX : allV (U ++ X) = true := (allV_iff _).2 fun q hq => (List.mem_append.1 hq).elim ((allV_iff _).1 hUv.1 q) ((allV_iff _).1 hX q)
    have hT2 : TaskAt P V (U ++ X) 0 t T := ⟨hp, hV, hUX, hT.2.2.2⟩
    rcases h with ⟨_, _, h⟩ | ⟨rfl, t', T', h, rfl⟩
    · exact (hT2.not h).elim
    · obtain ⟨rfl, rfl⟩ := hT2.unique h
      rw [exec_src T ⟨V, [], []⟩ (show (exec (liveSrc R z) T ⟨V, [], []⟩).U <+: U ++ X by rw [← hUv.2]; exact List.prefix_append _ _)]
      exact ⟨rfl, rfl⟩
  obtain ⟨h1, h2⟩ := key W hW r E hE
  refine ⟨h1, ?_, hUv.1, fun r' E' h' => ?_⟩
  · rw [h2, hUv.2]; rfl
  · have := key [] rfl r' E' (by rw [List.append_nil]; exact h')
    rw [this.2, h2]
/-- An effect of valid arguments. -/
theorem EffIs.at {P : List Tk} {V Y : List Int} {j : Nat} {t : Tk} {T : Fst} (h : TaskAt P V Y j t T) {r : Bool} {E : Eff} (hE : EffIs P V Y j r E) : r = true ∧ E = effOf P t (exec (listSrc Y) T ⟨V, [], []⟩) := by
  rcases hE with ⟨_, _, e⟩ | ⟨rfl, t', T', h', rfl⟩
  · exact (h.not e).elim
  · obtain ⟨rfl, rfl⟩ := h.unique h'; exact ⟨rfl, rfl⟩
/-- Variables that may not be written keep their value. -/
theorem eff_writes {P : List Tk} {V Y : List Int} {j : Nat} {t : Tk} {T : Fst} (h : TaskAt P V Y j t T) {r : Bool} {E : Eff} (hE : EffIs P V Y j r E) : r = true ∧ E.V.length = 8 ∧ ∀ v : Nat, ¬ MayTo t.b t.b.length v → E.V[v]? = V[v]? := by
  obtain ⟨rfl, rfl⟩ := hE.at h
  have hb := h.blk.1
  obtain ⟨_, hV, _, k, _, _, hT⟩ := h
  refine ⟨rfl, ?_, fun v hv => ?_⟩
  · show (exec (listSrc Y) T ⟨V, [], []⟩).V.length = 8
    rw [exec_vlen]; exact ((varsOk_iff V).1 hV).1
  · show (exec (listSrc Y) T ⟨V, [], []⟩).V[v]? = V[v]?
    refine exec_unwritten _ T _ (hT.vld hb) v fun hw => hv ?_
    obtain ⟨i, _, h2, h3⟩ := hT.wrT hw
    exact ⟨i, h2, h3⟩
/-- No execution sends or senses more than the longest run has statements. -/
theorem eff_longest {P : List Tk} {V Y : List Int} {j : Nat} {t : Tk} {T : Fst} (h : TaskAt P V Y j t T) {r : Bool} {E : Eff} (hE : EffIs P V Y j r E) {x : Int} (hx : LongIs t.b x) : r = true ∧ (E.S.length : Int) + E.U ≤ x := by
  obtain ⟨rfl, rfl⟩ := hE.at h
  have hb := h.blk
  obtain ⟨_, hV, _, k, _, _, hT⟩ := h
  refine ⟨rfl, ?_⟩
  rcases hx with ⟨_, hx⟩ | ⟨_, hx⟩
  · rw [hx.unique hT.runs]
    have := exec_tot (listSrc Y) T ⟨V, [], []⟩
    simp [tot] at this
    exact this
  · exact absurd hb.1 hx
end Go.Proofs.YtlicadaecfgklaaGreatDoor.exe

/- An effect as a value, and in new memory. -/
namespace Go.Proofs.YtlicadaecfgklaaGreatDoor.exe
open Go Go.ChangeShapes Go.WideShapes Go.ChangeAt Go.RowKit Go.Proofs.YtlicadaecfgklaaGreatDoor.row Go.Proofs.YtlicadaecfgklaaGreatDoor.val Go.Proofs.YtlicadaecfgklaaGreatDoor.expr

abbrev effV (a1 : Option Addr) (n1 c1 : Nat) (a2 : Option Addr) (n2 c2 : Nat) (E : Eff) : Value := .agg #[.slice a1 n1 c1, .slice a2 n2 c2, .int .i64 E.N, .int .i64 E.U]
/-- The effect in new memory. -/
def EffMem (B : Nat) (a1 : Option Addr) (n1 c1 : Nat) (a2 : Option Addr) (n2 c2 : Nat) (E : Eff) (w' : World) : Prop :=
  w'.ownsRow B 3 1 (.slice a1 n1 c1) n1 (ivs E.V) ∧ w'.ownsRow B 3 1 (.slice a2 n2 c2) n2 (ivs E.S) ∧ ((Value.slice a1 n1 c1).ownBlock = none ∨ (Value.slice a1 n1 c1).ownBlock ≠ (Value.slice a2 n2 c2).ownBlock)
def NewEff (w : World) (E : Eff) (e : Ending) (w' : World) : Prop :=
  ∃ a1 n1 c1 a2 n2 c2, e = .returned (effV a1 n1 c1 a2 n2 c2 E) ∧ EffMem w.heap.size a1 n1 c1 a2 n2 c2 E w' ∧ Below w.heap.size w w'
def NewEffB (w : World) (r : Bool) (E : Eff) (e : Ending) (w' : World) : Prop :=
  ∃ a1 n1 c1 a2 n2 c2, e = .returned (.tuple #[effV a1 n1 c1 a2 n2 c2 E, .bool r]) ∧ EffMem w.heap.size a1 n1 c1 a2 n2 c2 E w' ∧ Below w.heap.size w w'
abbrev zero4E : Array Value := #[.slice none 0 0, .slice none 0 0, .int .i64 0, .int .i64 0]
end Go.Proofs.YtlicadaecfgklaaGreatDoor.exe

/- Parts of a block: a stretch at one height is a valid block of its own; what runs in the part runs in the whole. Plain mathematics. -/
namespace Go.Proofs.YtlicadaecfgklaaGreatDoor.blk
open Go Go.ChangeShapes Go.WideShapes Go.ChangeAt Go.RowKit Go.Proofs.YtlicadaecfgklaaGreatDoor.row Go.Proofs.YtlicadaecfgklaaGreatDoor.stm

/-- The part of 'm' statements from 'c' on. -/
def part (L : List Go.Proofs.YtlicadaecfgklaaGreatDoor.stm.St) (c m : Nat) : List Go.Proofs.YtlicadaecfgklaaGreatDoor.stm.St := (L.drop c).take m
theorem part_len {L : List Go.Proofs.YtlicadaecfgklaaGreatDoor.stm.St} {c m : Nat} (h : c + m ≤ L.length) : (part L c m).length = m := by
  unfold part; rw [List.length_take, List.length_drop]; omega
theorem part_at {L : List Go.Proofs.YtlicadaecfgklaaGreatDoor.stm.St} {c m j : Nat} (h : j < m) : (part L c m)[j]? = L[c + j]? := by
  unfold part; rw [List.getElem?_take, if_pos h, List.getElem?_drop]
theorem part_ht {L : List Go.Proofs.YtlicadaecfgklaaGreatDoor.stm.St} {c m : Nat} (h : c + m ≤ L.length) : ∀ t, t ≤ m → hAt (part L c m) t = hAt L (c + t) - hAt L c := by
  intro t
  induction t with
  | zero => intro _; rw [hAt_zero, Nat.add_zero]; omega
  | succ t ih =>
    intro ht
    obtain ⟨s, hs⟩ := at_lt (show c + t < L.length by omega)
    have h1 := hAt_succ hs
    have h2 := hAt_succ (show (part L c m)[t]? = some s by rw [part_at (by omega)]; exact hs)
    rw [h2, ih (by omega), show c + (t + 1) = c + t + 1 by omega, h1]; omega
theorem part_end {L : List Go.Proofs.YtlicadaecfgklaaGreatDoor.stm.St} {c m i e : Nat} (h : c + m ≤ L.length) (hE : IsEnd (part L c m) i e) : IsEnd L (c + i) (c + e) := by
  obtain ⟨h1, h2, h3, h4⟩ := hE
  rw [part_len h] at h2
  have k1 := part_ht h (e + 1) (by omega)
  have k2 := part_ht h i (by omega)
  refine ⟨by omega, by omega, by rw [show c + e + 1 = c + (e + 1) by omega]; omega, fun j hj hje => ?_⟩
  obtain ⟨t, rfl⟩ : ∃ t, j = c + t := ⟨j - c, by omega⟩
  have := h4 t (by omega) (by omega)
  have := part_ht h t (by omega)
  omega
theorem part_runs {L : List Go.Proofs.YtlicadaecfgklaaGreatDoor.stm.St} {c m a b : Nat} {x : Int} (h : c + m ≤ L.length) (hr : Runs (part L c m) a b x) : b ≤ m → Runs L (c + a) (c + b) x := by
  induction hr with
  | nil a => intro _; exact .nil _
  | one a b x s hs ho h6 hr ih =>
    intro hb
    have hl := hr.le
    refine .one _ _ _ s (by rw [← part_at (show a < m by omega)]; exact hs) ho h6 ?_
    have := ih hb
    rw [show c + (a + 1) = c + a + 1 by omega] at this; exact this
  | nest a e b x y s hs he hbb hr ih1 ih2 =>
    intro hb
    have hl := hr.le
    have hae := he.1
    have h1 := ih1 (by omega)
    have h2 := ih2 hb
    rw [show c + (a + 1) = c + a + 1 by omega] at h1
    rw [show c + (e + 1) = c + e + 1 by omega] at h2
    exact .nest _ (c + e) _ _ _ s (by rw [← part_at (show a < m by omega)]; exact hs) (part_end h he) h1 h2
theorem part_blk {L : List Go.Proofs.YtlicadaecfgklaaGreatDoor.stm.St} {c m : Nat} (hb : IsBlk L) (hF : Flat L c (c + m)) : IsBlk (part L c m) := by
  obtain ⟨_, h2, h3, h4⟩ := hF
  have hl := part_len h2
  refine ⟨fun j s hj hs => ?_, ?_, by rw [hl]; have := hb.2.2; omega⟩
  · rw [hl] at hj
    have hs' : L[c + j]? = some s := by rw [← part_at hj]; exact hs
    have k1 := part_ht h2 (j + 1) (by omega)
    have k2 := h4 (c + (j + 1)) (by omega) (by omega)
    have k3 := (blk_bounds hb (c + (j + 1))).2
    have k4 := (blk_bounds hb c).1
    exact ⟨blk_stOk hb hs', by omega, by omega⟩
  · rw [hl, part_ht h2 m (Nat.le_refl _)]; omega
/-- The body of a statement that opens, at the head of a block. -/
theorem body_blk {L : List Go.Proofs.YtlicadaecfgklaaGreatDoor.stm.St} (hb : IsBlk L) {e : Nat} (he : IsEnd L 0 e) : IsBlk (part L 1 (e - 1)) := by
  have := flat_body he
  have h0 := he.1
  rw [show e = 1 + (e - 1) by omega] at this
  exact part_blk hb this
/-- What stands behind a place at height 0. -/
theorem rest_blk {L : List Go.Proofs.YtlicadaecfgklaaGreatDoor.stm.St} (hb : IsBlk L) {c : Nat} (hc : c ≤ L.length) (h0 : hAt L c = 0) : IsBlk (part L c (L.length - c)) := by
  refine part_blk hb ⟨by omega, by omega, ?_, fun t _ _ => by rw [h0]; exact (blk_bounds hb t).1⟩
  rw [show c + (L.length - c) = L.length by omega, hb.2.1, h0]
/-- A block that begins with a statement that neither opens nor ends. -/
theorem runs_flat {L : List Go.Proofs.YtlicadaecfgklaaGreatDoor.stm.St} {s : Go.Proofs.YtlicadaecfgklaaGreatDoor.stm.St} {y : Int} (hl : 1 ≤ L.length) (hs : L[0]? = some s) (ho : opn s = false) (h6 : s.k ≠ 6) (h : Runs (part L 1 (L.length - 1)) 0 (part L 1 (L.length - 1)).length y) : Runs L 0 L.length (1 + y) := by
  have hp : 1 + (L.length - 1) ≤ L.length := by omega
  rw [part_len hp] at h
  have h1 := part_runs hp h (Nat.le_refl _)
  rw [Nat.add_zero, show 1 + (L.length - 1) = L.length by omega] at h1
  exact .one 0 _ y s hs ho h6 h1
/-- A block that begins with a statement that opens. -/
theorem runs_nest {L : List Go.Proofs.YtlicadaecfgklaaGreatDoor.stm.St} {s : Go.Proofs.YtlicadaecfgklaaGreatDoor.stm.St} {e : Nat} {x y : Int} (hs : L[0]? = some s) (he : IsEnd L 0 e) (hx : Runs (part L 1 (e - 1)) 0 (part L 1 (e - 1)).length x) (h : Runs (part L (e + 1) (L.length - (e + 1))) 0 (part L (e + 1) (L.length - (e + 1))).length y) :
    Runs L 0 L.length (max 1 s.n * x + y) := by
  have h0 := he.1
  have h1 := he.2.1
  have hp : 1 + (e - 1) ≤ L.length := by omega
  have hq : (e + 1) + (L.length - (e + 1)) ≤ L.length := by omega
  rw [part_len hp] at hx
  rw [part_len hq] at h
  have k1 := part_runs hp hx (Nat.le_refl _)
  have k2 := part_runs hq h (Nat.le_refl _)
  rw [Nat.add_zero, show 1 + (e - 1) = e by omega] at k1
  rw [Nat.add_zero, show (e + 1) + (L.length - (e + 1)) = L.length by omega] at k2
  exact .nest 0 e _ x y s hs he k1 k2
/-- How often the body of a valid statement that opens runs. -/
theorem n_if {s : Go.Proofs.YtlicadaecfgklaaGreatDoor.stm.St} (h : stOk s = true) (h4 : s.k = 4) : max 1 s.n = 1 := by
  unfold stOk at h
  rw [if_neg (by omega), if_neg (by omega), if_neg (by omega), if_pos h4] at h
  simp at h; omega
theorem n_loop {s : Go.Proofs.YtlicadaecfgklaaGreatDoor.stm.St} (h : stOk s = true) (h5 : s.k = 5) : max 1 s.n = s.n := by
  unfold stOk at h
  rw [if_neg (by omega), if_neg (by omega), if_neg (by omega), if_neg (by omega), if_pos h5] at h
  simp at h; omega
/-- A part of a slice. -/
theorem StRow.cut {w : World} {a A : Option Addr} {n : Nat} {L : List Go.Proofs.YtlicadaecfgklaaGreatDoor.stm.St} (h : StRow w a n L) (c m : Nat) (hcm : c + m ≤ n) (hA : ∀ b off, a = some ⟨b, off, none⟩ → 0 < m → A = some ⟨b, off + c * 6, none⟩) : StRow w A m (part L c m) :=
  ⟨part_len (by rw [h.1]; exact hcm), fun k hk => by
    obtain ⟨b, off, s, ha, hlt, hs, hr⟩ := h.2 (c + k) (by omega)
    refine ⟨b, off + c * 6, s, hA b off ha (by omega), hlt, by rw [part_at hk]; exact hs, ?_⟩
    rw [show off + c * 6 + k * 6 = off + (c + k) * 6 by omega]; exact hr⟩
theorem own_le {w : World} {base n cap : Nat} {a : Option Addr} {t : TypeId} {z : Nat} {xs : List Value} (h : w.ownsRow base t z (.slice a n cap) n xs) : n ≤ cap := by
  rcases h.2 with ⟨hv, h0⟩ | ⟨g, c, cur, hv, _, _, hle, _⟩
  · omega
  · simp only [Value.slice.injEq] at hv; omega
end Go.Proofs.YtlicadaecfgklaaGreatDoor.blk

/- Chapter 3's ReadsOf of the model: the numbers of the variables that a valid expression names, in ascending order, in new memory; nothing that was there is written. -/
namespace Go.Proofs.YtlicadaecfgklaaGreatDoor.expr
open Go.ChangeShapes Go.WideShapes Go.ChangeAt Go.RowKit Go.Proofs.YtlicadaecfgklaaGreatDoor.row Go.Proofs.YtlicadaecfgklaaGreatDoor.val

def readsV (o a b : Int) : List Int := if exprOk o a b then rd a b 8 else []
/-- A new row of these numbers. -/
def NewInts (w : World) (L : List Int) (e : Ending) (w' : World) : Prop :=
  ∃ ad n cap, e = .returned (.slice ad n cap) ∧ w'.ownsRow w.heap.size 3 1 (.slice ad n cap) n (ivs L) ∧ Below w.heap.size w w'

set_option maxHeartbeats 1000000 in
set_option maxRecDepth 100000 in
theorem spec_reads_no (w : World) (o a b : Int) (he : exprOk o a b = false) :
    Calls Tryz.prog 216 #[ev o a b] w (NewInts w []) := by
  have hx := Box.new w #[.int .i64 o, .int .i64 a, .int .i64 b] 72
  have hn := below_new w (.cells #[.int .i64 o, .int .i64 a, .int .i64 b] 72)
  have H0 := Lib.hid (And.intro hx hn)
  clear hx hn
  have HE := Lib.hid he
  clear he
  go_enter Tryz.func216, Tryz.ntmps216
  go_wp2
  go_loopw [3, 4] (fun v i wr => v = .slice (some ⟨w.heap.size + 1, 0, none⟩) 0 0 ∧ i = .int .i64 0 ∧ wr.ownsRow w.heap.size 3 1 (.slice (some ⟨w.heap.size + 1, 0, none⟩) 0 0) 0 (ivs []) ∧ Box w.heap.size #[.int .i64 o, .int .i64 a, .int .i64 b] 72 wr ∧ Below w.heap.size w wr) (fun _ _ _ => 0)
  case atStart =>
    have hs : (w.alloc (.cells #[.int .i64 o, .int .i64 a, .int .i64 b] 72)).heap.size = w.heap.size + 1 := by simp
    refine ⟨by simp, rfl, ?_, H0.out.1.alloc _, below_then H0.out.2 (below_new _ _)⟩
    have := World.ownsRow_made (base := w.heap.size) (e := 3) (size := 1) (w.alloc (.cells #[.int .i64 o, .int .i64 a, .int .i64 b] 72)) #[] 0 (by simp) (by decide) rfl
    rw [hs] at this
    exact this
  case round =>
    obtain ⟨rfl, rfl, hown, hbox, hbel⟩ := hrel
    have c0 := hbox.cell 0
    have c1 := hbox.cell 1
    have c2 := hbox.cell 2
    have H1 := Lib.hid (And.intro hown hbel)
    clear hown hbel hbox
    go_wp2_with (go_at_call 116; refine (spec_exprok _ _ _ _ HE.out _).mono ?_; rintro e w2 ⟨rfl, hb2⟩)
    go_ret
    exact ⟨_, _, _, rfl, H1.out.1.kept (grown_below hb2 none) (by simp [Value.ownBlock]), below_then H1.out.2 hb2⟩
set_option maxHeartbeats 2000000 in
set_option maxRecDepth 100000 in
theorem spec_reads_ok (w : World) (o a b : Int) (he : exprOk o a b = true) :
    Calls Tryz.prog 216 #[ev o a b] w (NewInts w (rd a b 8)) := by
  obtain ⟨i0, hi, hz0, hz1, hz2⟩ := info_parts infoInt
  have hx := Box.new w #[.int .i64 o, .int .i64 a, .int .i64 b] 72
  have hn := below_new w (.cells #[.int .i64 o, .int .i64 a, .int .i64 b] 72)
  have H0 := Lib.hid (And.intro hx hn)
  clear hx hn
  have HE := Lib.hid he
  clear he
  go_enter Tryz.func216, Tryz.ntmps216
  go_wp2
  go_loopw [3, 4] (fun v i wr => ∃ (k n cap : Nat) (ad : Option Addr), k ≤ 8 ∧ i = .int .i64 k ∧ v = .slice ad n cap ∧ n ≤ k ∧ wr.ownsRow (w.heap.size + 1) 3 1 (.slice ad n cap) n (ivs (rd a b k)) ∧ Box w.heap.size #[.int .i64 o, .int .i64 a, .int .i64 b] 72 wr ∧ Below w.heap.size w wr) (fun _ i _ => 8 - (intOf i).toNat)
  case atStart =>
    have hs : (w.alloc (.cells #[.int .i64 o, .int .i64 a, .int .i64 b] 72)).heap.size = w.heap.size + 1 := by simp
    refine ⟨0, 0, 0, some ⟨w.heap.size + 1, 0, none⟩, Nat.zero_le _, rfl, by simp, Nat.le_refl _, ?_, H0.out.1.alloc _, below_then H0.out.2 (below_new _ _)⟩
    have := World.ownsRow_made (base := w.heap.size + 1) (e := 3) (size := 1) (w.alloc (.cells #[.int .i64 o, .int .i64 a, .int .i64 b] 72)) #[] 0 (by simp) (by decide) rfl
    rw [hs] at this
    exact this
  case round =>
    obtain ⟨k, n, cap, ad, hk, rfl, rfl, hnk, hown, hbox, hbel⟩ := hrel
    have c0 := hbox.cell 0
    have c1 := hbox.cell 1
    have c2 := hbox.cell 2
    by_cases hlt : k < 8
    · have hI : (k : Int) < 8 := by omega
      have H1 := Lib.hid (And.intro hown (And.intro hbox hbel))
      clear hown hbel hbox
      go_wp2_with (go_at_call 116; refine (spec_exprok _ _ _ _ HE.out _).mono ?_; rintro e w2 ⟨rfl, hb2⟩; refine Hid.out ?_)
      have hown2 := H1.out.1.kept (grown_below hb2 none) (by cases ad <;> simp [Value.ownBlock])
      have hbox2 := H1.out.2.1.below hb2
      have hbel2 := below_then H1.out.2.2 hb2
      clear c0 c1 c2 hb2 H1
      have c0 := hbox2.cell 0
      have c1 := hbox2.cell 1
      have c2 := hbox2.cell 2
      have hsz := hbox2.lt
      by_cases hyes : a = -1 - (k : Int) ∨ b = -1 - (k : Int)
      · have HRD := Lib.hid (rd_yes hyes)
        have HN : Hid (∀ j, (Value.slice ad n cap).ownBlock = some j → w.heap.size + 1 ≤ j) := fun j hj => (hown2.lt j hj).1
        have H2 := Lib.hid (And.intro hbox2 hbel2)
        have HO2 := Lib.hid hown2
        rcases (show (a == -1 - (k : Int)) = true ∨ ((a == -1 - (k : Int)) = false ∧ (b == -1 - (k : Int)) = true) by by_cases h : a = -1 - (k : Int); exact Or.inl (by simp [h]); exact Or.inr ⟨by simp [h], by rcases hyes with h' | h'; exact absurd h' h; simp [h']⟩) with t1 | ⟨t1, t2⟩
        all_goals
          clear hyes hown2 hbox2 hbel2
          refine Lib.hid ?_
          go_wp2_with (at_builtin; refine wpList_append_own _ rfl _ _ 27 rfl (w.heap.size + 1) 3 i0 (.int .i64 0) 1 8 Tryz.underlying27 hi hz0 hz1 hz2 rfl (by decide) _ _ _ rfl (HO2.out.alloc _) ⟨w2.heap.size, 0, none⟩ 1 1 [.int .i64 k] rfl rfl (World.news_of_block (cs := #[.int .i64 k]) (t := 3) (fr := (0, 0)) (heap_alloc_new w2 _)) (by simp [Value.oneCell']) (by unfold maxLen; omega) (by omega) (by simp; omega) ?_; intro v3 w3 hown3 hgrow3 _; refine Hid.out ?_)
          rw [ivs_snoc, ← HRD.out] at hown3
          have hbox3 := (H2.out.1.alloc (.cells #[.int .i64 k] 3)).grown hgrow3 (fun e => by have := HN.out _ e.symm; omega)
          have hbel3 := (below_then H2.out.2 (below_new w2 (.cells #[.int .i64 k] 3))).grown hgrow3 (by have := H2.out.2.size; simp; omega) (fun j hj => by have := HN.out j hj; omega)
          have HR := Lib.hid (And.intro hown3 (And.intro hbox3 hbel3))
          have hform := hown3.form (by omega)
          obtain ⟨g3, cap3, rfl, _, _⟩ := hform
          clear hown3 hbox3 hbel3 hgrow3 c0 c1 c2
          refine Lib.hid ?_
          go_wp2
          go_roundw
          case rel => exact ⟨k + 1, n + 1, cap3, _, by omega, by go_num, rfl, by omega, HR.out.1, HR.out.2.1, HR.out.2.2⟩
          case measure => simp [intOf]; omega
      · have HRD := Lib.hid (rd_no hyes)
        have t1 : (a == -1 - (k : Int)) = false := by simp; omega
        have t2 : (b == -1 - (k : Int)) = false := by simp; omega
        rw [← HRD.out] at hown2
        have HR := Lib.hid (And.intro hown2 (And.intro hbox2 hbel2))
        clear hyes hown2 hbox2 hbel2
        refine Lib.hid ?_
        go_wp2
        go_roundw
        case rel => exact ⟨k + 1, n, cap, ad, by omega, by go_num, rfl, by omega, HR.out.1, HR.out.2.1, HR.out.2.2⟩
        case measure => simp [intOf]; omega
    · have hk8 : k = 8 := by omega
      subst hk8
      have HR := Lib.hid (And.intro hown hbel)
      clear hown hbox hbel
      go_wp2
      go_ret
      exact ⟨_, _, _, rfl, HR.out.1.mono (by omega), HR.out.2⟩
theorem spec_reads (w : World) (o a b : Int) : Calls Tryz.prog 216 #[ev o a b] w (NewInts w (readsV o a b)) := by
  cases he : exprOk o a b
  · simpa [readsV, he] using spec_reads_no w o a b he
  · simpa [readsV, he] using spec_reads_ok w o a b he
end Go.Proofs.YtlicadaecfgklaaGreatDoor.expr

/- Executions that tell an observer each statement ahead of its effect, with the value that it assigns or sends. Plain mathematics. -/
namespace Go.Proofs.YtlicadaecfgklaaGreatDoor.exe
open Go Go.ChangeShapes Go.WideShapes Go.ChangeAt Go.RowKit Go.Proofs.YtlicadaecfgklaaGreatDoor.row Go.Proofs.YtlicadaecfgklaaGreatDoor.val Go.Proofs.YtlicadaecfgklaaGreatDoor.expr Go.Proofs.YtlicadaecfgklaaGreatDoor.stm Go.Proofs.YtlicadaecfgklaaGreatDoor.blk Go.Proofs.YtlicadaecfgklaaGreatDoor.sets

theorem part_par {L : List Sm} {c m a b : Nat} {T : Fst} (h : c + m ≤ L.length) (hr : Par (blk.part L c m) a b T) : b ≤ m → Par L (c + a) (c + b) T := by
  induction hr with
  | nil a => intro _; exact .nil _
  | one a b T s hs ho h6 hr ih =>
    intro hb
    have hl := hr.le
    refine .one _ _ _ s (by rw [← part_at (show a < m by omega)]; exact hs) ho h6 ?_
    have := ih hb
    rw [show c + (a + 1) = c + a + 1 by omega] at this; exact this
  | nest a e b B T s hs he hbb hr ih1 ih2 =>
    intro hb
    have hl := hr.le
    have hae := he.1
    have h1 := ih1 (by omega)
    have h2 := ih2 hb
    rw [show c + (a + 1) = c + a + 1 by omega] at h1
    rw [show c + (e + 1) = c + e + 1 by omega] at h2
    exact .nest _ (c + e) _ _ _ s (by rw [← part_at (show a < m by omega)]; exact hs) (part_end h he) h1 h2
theorem par_flat {L : List Sm} {s : Sm} {T : Fst} (hl : 1 ≤ L.length) (hs : L[0]? = some s) (ho : opn s = false) (h6 : s.k ≠ 6) (h : Par (blk.part L 1 (L.length - 1)) 0 (blk.part L 1 (L.length - 1)).length T) : Par L 0 L.length (.one s T) := by
  have hp : 1 + (L.length - 1) ≤ L.length := by omega
  rw [part_len hp] at h
  have h1 := part_par hp h (Nat.le_refl _)
  rw [Nat.add_zero, show 1 + (L.length - 1) = L.length by omega] at h1
  exact .one 0 _ T s hs ho h6 h1
theorem par_nest {L : List Sm} {s : Sm} {e : Nat} {B T : Fst} (hs : L[0]? = some s) (he : IsEnd L 0 e) (hx : Par (blk.part L 1 (e - 1)) 0 (blk.part L 1 (e - 1)).length B) (h : Par (blk.part L (e + 1) (L.length - (e + 1))) 0 (blk.part L (e + 1) (L.length - (e + 1))).length T) :
    Par L 0 L.length (.nest s B T) := by
  have h0 := he.1
  have h1 := he.2.1
  have hp : 1 + (e - 1) ≤ L.length := by omega
  have hq : (e + 1) + (L.length - (e + 1)) ≤ L.length := by omega
  rw [part_len hp] at hx
  rw [part_len hq] at h
  have k1 := part_par hp hx (Nat.le_refl _)
  have k2 := part_par hq h (Nat.le_refl _)
  rw [Nat.add_zero, show 1 + (e - 1) = e by omega] at k1
  rw [Nat.add_zero, show (e + 1) + (L.length - (e + 1)) = L.length by omega] at k2
  exact .nest 0 e _ B T s hs he k1 k2
/-- The value that a statement assigns or sends. -/
def valS (src : Int → Nat → Int) (s : Sm) (x : Sx) : Int := if s.k = 1 ∨ s.k = 3 then evalV x.V s.o s.a s.b else if s.k = 2 then src s.n x.U.length else 0
theorem valS_eval {src : Int → Nat → Int} {s : Sm} {x : Sx} (h : s.k = 1 ∨ s.k = 3) : valS src s x = evalV x.V s.o s.a s.b := by unfold valS; rw [if_pos h]
theorem valS_src {src : Int → Nat → Int} {s : Sm} {x : Sx} (h : s.k = 2) : valS src s x = src s.n x.U.length := by unfold valS; rw [if_neg (by omega), if_pos h]
theorem valS_no {src : Int → Nat → Int} {s : Sm} {x : Sx} (h : s.k = 4 ∨ s.k = 5) : valS src s x = 0 := by unfold valS; rw [if_neg (by omega), if_neg (by omega)]
theorem valS_val {src : Int → Nat → Int} (hsrc : ∀ q n, isVal (src q n) = true) (s : Sm) (x : Sx) : isVal (valS src s x) = true := by
  unfold valS
  split
  · exact evalV_val _ _ _ _
  split
  · exact hsrc _ _
  · decide
/-- What an observer makes of what it is told; a measure of it. -/
structure Obm where
  (τ : Type) (nxt : τ → Sx → Sm → Int → τ) (len : τ → Int)
  (grow : ∀ t x s v, len (nxt t x s v) ≤ len t + 5)
  (pos : ∀ t, 0 ≤ len t)
abbrev Obm.Z (o : Obm) : Type := Sx × o.τ
section
variable (src : Int → Nat → Int) (o : Obm)
def stepZ (s : Sm) (z : o.Z) : o.Z := (step1 src s z.1, o.nxt z.2 z.1 s (valS src s z.1))
def tellZ (s : Sm) (z : o.Z) : o.Z := (z.1, o.nxt z.2 z.1 s (valS src s z.1))
def repZ (f : o.Z → o.Z) : Nat → o.Z → o.Z
  | 0, z => z
  | n + 1, z => repZ f n (f z)
def execZ : Fst → o.Z → o.Z
  | .nil, z => z
  | .one s r, z => execZ r (stepZ src o s z)
  | .nest s b r, z => execZ r (repZ o (execZ b) (its s z.1) (tellZ src o s z))
end
section
variable {src : Int → Nat → Int} {o : Obm}
theorem repZ_zero (f : o.Z → o.Z) (z : o.Z) : repZ o f 0 z = z := rfl
theorem repZ_succ (f : o.Z → o.Z) (n : Nat) (z : o.Z) : repZ o f (n + 1) z = repZ o f n (f z) := rfl
theorem repZ_last (f : o.Z → o.Z) : ∀ (n : Nat) (z : o.Z), repZ o f (n + 1) z = f (repZ o f n z)
  | 0, _ => rfl
  | n + 1, z => by rw [repZ_succ, repZ_last f n (f z), repZ_succ]
theorem repZ_ind {f : o.Z → o.Z} {P : o.Z → Prop} (h : ∀ z, P z → P (f z)) : ∀ (n : Nat) (z : o.Z), P z → P (repZ o f n z)
  | 0, _, hz => hz
  | n + 1, z, hz => repZ_ind h n (f z) (h z hz)
theorem repZ_fst {b : Fst} (h : ∀ z, (execZ src o b z).1 = exec src b z.1) : ∀ (n : Nat) (z : o.Z), (repZ o (execZ src o b) n z).1 = rep (exec src b) n z.1
  | 0, _ => rfl
  | n + 1, z => by rw [repZ_succ, repZ_fst h n, h, rep_succ]
/-- An observer changes nothing of what is executed. -/
theorem execZ_fst : ∀ (T : Fst) (z : o.Z), (execZ src o T z).1 = exec src T z.1
  | .nil, _ => rfl
  | .one s r, z => by simp only [execZ, exec]; rw [execZ_fst r]; rfl
  | .nest s b r, z => by simp only [execZ, exec]; rw [execZ_fst r, repZ_fst (fun y => execZ_fst b y)]; rfl
/-- How much is sent, sensed and told at most. -/
def cntZ : Fst → Int
  | .nil => 0
  | .one _ r => 6 + cntZ r
  | .nest s b r => 6 + max 1 s.n * cntZ b + cntZ r
theorem cntZ_nonneg : ∀ T : Fst, 0 ≤ cntZ T
  | .nil => by simp [cntZ]
  | .one _ r => by have := cntZ_nonneg r; simp only [cntZ]; omega
  | .nest s b r => by
    have h1 := cntZ_nonneg b
    have h2 := cntZ_nonneg r
    have h3 : 0 ≤ max 1 s.n * cntZ b := Int.mul_nonneg (by omega) h1
    simp only [cntZ]; omega
theorem cntZ_bound {L : List Sm} (hb : IsBlk L) {a b : Nat} {T : Fst} (h : Par L a b T) : ∀ H : Int, hAt L a = H → cntZ T ≤ (b - a : Int) * (6 * p5 H) := by
  induction h with
  | nil a => intro H _; simp [cntZ]
  | one a b T s hs ho h6 hr ih =>
    intro H hH
    have h1 := hAt_succ hs
    rw [dlt_flat ho h6] at h1
    have h2 := ih H (by omega)
    have : (1 : Int) ≤ p5 H := by unfold p5; split <;> (try split) <;> (try split) <;> omega
    have e : ((b : Int) - a) * (6 * p5 H) = ((b : Int) - ((a + 1 : Nat) : Int)) * (6 * p5 H) + 6 * p5 H := by
      rw [show (b : Int) - a = ((b : Int) - ((a + 1 : Nat) : Int)) + 1 by omega, Int.add_mul, Int.one_mul]
    rw [e]; simp only [cntZ]; omega
  | nest a e b B T s hs he hbb hr ih1 ih2 =>
    intro H hH
    obtain ⟨s2, hs2, ho2⟩ := he.opens
    have h1 := hAt_succ hs2
    rw [dlt_opn ho2] at h1
    have h2 := (blk_bounds hb (a + 1)).2
    have h3 := (blk_bounds hb a).1
    have hx := ih1 (H + 1) (by omega)
    have hx0 := cntZ_nonneg B
    have hy := ih2 H (by rw [he.2.2.1, hH])
    have hn := n_le (blk_stOk hb hs)
    have hae := he.1
    have hle := hr.le
    obtain ⟨m, hm⟩ : ∃ m, max 1 s.n = m := ⟨_, rfl⟩
    have hm1 : 1 ≤ m ∧ m ≤ 5 := by omega
    simp only [cntZ]
    rw [hm]
    have hmx5 : m * cntZ B ≤ 5 * cntZ B := Int.mul_le_mul_of_nonneg_right hm1.2 hx0
    rcases (show H = 0 ∨ H = 1 ∨ H = 2 by omega) with rfl | rfl | rfl
    · simp only [p5] at hx hy ⊢; simp at hx hy ⊢; omega
    · simp only [p5] at hx hy ⊢; simp at hx hy ⊢; omega
    · simp only [p5] at hx hy ⊢; simp at hx hy ⊢; omega
theorem cntZ_small {L : List Sm} (hb : IsBlk L) {T : Fst} (h : Par L 0 L.length T) : cntZ T ≤ 18000 := by
  have h1 := cntZ_bound hb h (hAt L 0) rfl
  have h2 : p5 (hAt L 0) ≤ 125 ∧ 0 ≤ p5 (hAt L 0) := by unfold p5; split <;> (try split) <;> (try split) <;> omega
  have h4 := hb.2.2
  have h5 : ((L.length : Int) - (0 : Nat)) * (6 * p5 (hAt L 0)) ≤ ((L.length : Int) - (0 : Nat)) * 750 := Int.mul_le_mul_of_nonneg_left (by omega) (by omega)
  omega
def totZ (z : o.Z) : Int := tot z.1 + o.len z.2
theorem totZ_step (s : Sm) (z : o.Z) : totZ (stepZ src o s z) ≤ totZ z + 6 := by
  have h1 := tot_step src s z.1
  have h2 := o.grow z.2 z.1 s (valS src s z.1)
  unfold totZ stepZ; dsimp only; omega
theorem totZ_tell (s : Sm) (z : o.Z) : totZ (tellZ src o s z) ≤ totZ z + 6 := by
  have h2 := o.grow z.2 z.1 s (valS src s z.1)
  unfold totZ tellZ; dsimp only; omega
theorem repZ_tot {f : o.Z → o.Z} {c : Int} (h : ∀ z, totZ (f z) ≤ totZ z + c) : ∀ (n : Nat) (z : o.Z), totZ (repZ o f n z) ≤ totZ z + n * c
  | 0, z => by rw [repZ_zero]; simp
  | n + 1, z => by
    rw [repZ_succ]
    have h1 := repZ_tot h n (f z)
    have h2 := h z
    have h3 : ((n + 1 : Nat) : Int) * c = n * c + c := by rw [Int.natCast_add, Int.add_mul]; simp
    omega
theorem execZ_tot : ∀ (T : Fst) (z : o.Z), totZ (execZ src o T z) ≤ totZ z + cntZ T
  | .nil, z => by simp [execZ, cntZ]
  | .one s r, z => by
    have h1 := execZ_tot r (stepZ src o s z)
    have h2 := totZ_step (src := src) s z
    simp only [execZ, cntZ]; omega
  | .nest s b r, z => by
    have h1 := execZ_tot r (repZ o (execZ src o b) (its s z.1) (tellZ src o s z))
    have h2 := repZ_tot (fun y => execZ_tot b y) (its s z.1) (tellZ src o s z)
    have h3 : (its s z.1 : Int) * cntZ b ≤ max 1 s.n * cntZ b := Int.mul_le_mul_of_nonneg_right (its_le s z.1) (cntZ_nonneg b)
    have h4 := totZ_tell (src := src) s z
    simp only [execZ, cntZ]; omega
/-- The state 'z' has been reached, and 'M' is still to run. -/
def RestZ (src : Int → Nat → Int) (o : Obm) (L : List Sm) (z0 : o.Z) (M : List Sm) (z : o.Z) : Prop := ∀ T, Par M 0 M.length T → ∃ T0, Par L 0 L.length T0 ∧ execZ src o T0 z0 = execZ src o T z ∧ totZ z + cntZ T ≤ totZ z0 + cntZ T0
theorem RestZ.start (src : Int → Nat → Int) (o : Obm) (L : List Sm) (z0 : o.Z) : RestZ src o L z0 L z0 := fun T h => ⟨T, h, rfl, Int.le_refl _⟩
theorem RestZ.done {L : List Sm} {z0 z : o.Z} (h : RestZ src o L z0 [] z) {T0 : Fst} (hT : Par L 0 L.length T0) : execZ src o T0 z0 = z := by
  obtain ⟨T, h1, h2, _⟩ := h .nil (.nil 0)
  rw [hT.unique h1, h2]; rfl
theorem RestZ.one {L M : List Sm} {z0 z : o.Z} {n : Nat} {s : Sm} (h : RestZ src o L z0 M z) (hb : IsBlk M) (hn : M.length = n) (hs : M[0]? = some s) (ho : opn s = false) :
    IsBlk (blk.part M (0 + 1) (n - (0 + 1))) ∧ RestZ src o L z0 (blk.part M (0 + 1) (n - (0 + 1))) (stepZ src o s z) := by
  subst hn
  have hlt := (List.getElem?_eq_some_iff.1 hs).1
  have h1 := hAt_succ hs
  rw [hAt_zero] at h1
  have h6 : s.k ≠ 6 := fun h6 => by
    rw [dlt_end h6] at h1
    have := (blk_bounds hb (0 + 1)).1; omega
  rw [dlt_flat ho h6] at h1
  refine ⟨rest_blk hb (by omega) (by omega), fun T hT => ?_⟩
  obtain ⟨T0, k1, k2, k3⟩ := h _ (par_flat (by omega) hs ho h6 hT)
  refine ⟨T0, k1, k2, ?_⟩
  have := totZ_step (src := src) s z
  simp only [cntZ] at k3
  omega
theorem RestZ.nest {L M : List Sm} {z0 z : o.Z} {B : Fst} {n e : Nat} {s : Sm} (h : RestZ src o L z0 M z) (hb : IsBlk M) (hn : M.length = n) (hs : M[0]? = some s) (he : IsEnd M 0 e) (hB : Par (blk.part M 1 (e - 1)) 0 (blk.part M 1 (e - 1)).length B) :
    IsBlk (blk.part M (e + 1) (n - (e + 1))) ∧ RestZ src o L z0 (blk.part M (e + 1) (n - (e + 1))) (repZ o (execZ src o B) (its s z.1) (tellZ src o s z)) := by
  subst hn
  have h1 := he.2.1
  refine ⟨rest_blk hb (by omega) (by rw [he.2.2.1, hAt_zero]), fun T hT => ?_⟩
  obtain ⟨T0, k1, k2, k3⟩ := h _ (par_nest hs he hB hT)
  refine ⟨T0, k1, k2, ?_⟩
  have h2 := repZ_tot (fun y => execZ_tot (src := src) B y) (its s z.1) (tellZ src o s z)
  have h3 : (its s z.1 : Int) * cntZ B ≤ max 1 s.n * cntZ B := Int.mul_le_mul_of_nonneg_right (its_le s z.1) (cntZ_nonneg B)
  have h4 := totZ_tell (src := src) s z
  simp only [cntZ] at k3
  omega
/-- What has been sent, sensed and told stays below the bound of the whole. -/
theorem RestZ.small {L M : List Sm} {z0 z : o.Z} {m : Int} (h : RestZ src o L z0 M z) (hm : ∀ T0, Par L 0 L.length T0 → totZ z0 + cntZ T0 ≤ m) : ∀ T, Par M 0 M.length T → totZ z + cntZ T ≤ m := fun T hT => by
  obtain ⟨T0, k1, _, k3⟩ := h T hT
  have := hm T0 k1
  omega
theorem RestZ.tot {L M : List Sm} {z0 z : o.Z} {m : Int} (h : RestZ src o L z0 M z) (hM : IsBlk M) (hm : ∀ T0, Par L 0 L.length T0 → totZ z0 + cntZ T0 ≤ m) : totZ z ≤ m := by
  obtain ⟨T, hT⟩ := par_ex hM
  have := h.small hm T hT
  have := cntZ_nonneg T
  omega
end
theorem step_varsP {src : Int → Nat → Int} (hsrc : ∀ q n, isVal (src q n) = true) (s : Sm) {x : Sx} (h : varsOk x.V = true) : varsOk (step1 src s x).V = true := by
  rcases step_cases src s x with ⟨_, e⟩ | ⟨_, e⟩ | ⟨_, e⟩ | ⟨_, _, e⟩ <;> rw [e]
  · exact vars_set h (evalV_val _ _ _ _) _
  · exact vars_set h (hsrc _ _) _
  · exact h
  · exact h
theorem exec_varsP {src : Int → Nat → Int} (hsrc : ∀ q n, isVal (src q n) = true) : ∀ (T : Fst) {x : Sx}, varsOk x.V = true → varsOk (exec src T x).V = true
  | .nil, _, h => h
  | .one s r, _, h => exec_varsP hsrc r (step_varsP hsrc s h)
  | .nest _ b r, x, h => exec_varsP hsrc r (rep_ind (P := fun y => varsOk y.V = true) (fun _ hy => exec_varsP hsrc b hy) _ x h)
theorem execZ_vars {src : Int → Nat → Int} {o : Obm} (hsrc : ∀ q n, isVal (src q n) = true) (T : Fst) {z : o.Z} (h : varsOk z.1.V = true) : varsOk (execZ src o T z).1.V = true := by
  rw [execZ_fst]; exact exec_varsP hsrc T h
/-- An observer that makes nothing of what it is told. -/
def deaf : Obm := ⟨Unit, fun t _ _ _ => t, fun _ => 0, fun _ _ _ _ => by omega, fun _ => by omega⟩
end Go.Proofs.YtlicadaecfgklaaGreatDoor.exe
