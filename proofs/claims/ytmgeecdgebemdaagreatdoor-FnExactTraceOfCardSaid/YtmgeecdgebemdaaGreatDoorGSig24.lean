/- Several texts in one: LogA TrcB GRow Open. -/
import Derived.Test.YtmgeecdgebemdaaGreatDoorGSig23
import Derived.Test.YtmgeecdgebemdaaGreatDoorGSig20
import Derived.Test.YtmgeecdgebemdaaGreatDoorGSig17
import Derived.Test.YtmgeecdgebemdaaGreatDoorGSig21
import Derived.Test.YtmgeecdgebemdaaGreatDoorGSig4
import Derived.Test.YtmgeecdgebemdaaGreatDoorRows
import Derived.WalkKit
import Derived.ProofKit
import Derived.OpenShut
import Derived.Lib.SmallJoins

/- What must be logged: plain mathematics. -/
namespace Go.Proofs.YtmgeecdgebemdaaGreatDoor.sets
open Go Go.Proofs.YtmgeecdgebemdaaGreatDoor.stm Go.Proofs.YtmgeecdgebemdaaGreatDoor.blk Go.Proofs.YtmgeecdgebemdaaGreatDoor.expr Go.Proofs.YtmgeecdgebemdaaGreatDoor.prg

/-- The variable must be logged. -/
def LogP (t : Tk) (v : Nat) : Prop := (IsBlk t.b ∧ exprOk t.o t.x t.y = true) ∧ MayTo t.b t.b.length v ∧ (FirstP t v ∨ ¬ WAt t.b t.b.length v)
theorem is_ex (p : Nat → Prop) : ∃ f, Is f p := by
  classical exact ⟨fun v => decide (p v), fun v _ => decide_eq_true_iff⟩
theorem lst_filter {f g : Nat → Bool} {p : Int → Bool} : ∀ k, (∀ v : Nat, v < k → g v = (f v && p v)) → (lst f k).filter p = lst g k
  | 0, _ => rfl
  | k + 1, h => by
    have ih := lst_filter (f := f) (g := g) (p := p) k (fun v hv => h v (by omega))
    have hk := h k (by omega)
    cases hf : f k
    · rw [hf, Bool.false_and] at hk
      rw [lst_no hf, lst_no hk, ih]
    · rw [hf, Bool.true_and] at hk
      rw [lst_yes hf, List.filter_append, ih]
      cases hp : p k
      · rw [hp] at hk
        rw [lst_no hk]; simp [hp]
      · rw [hp] at hk
        rw [lst_yes hk]; simp [hp]
/-- The model's choice. -/
theorem log_model {t : Tk} (ht : IsBlk t.b ∧ exprOk t.o t.x t.y = true) {fm fu ff f : Nat → Bool} (hm : Is fm (fun v => IsBlk t.b ∧ MayTo t.b t.b.length v)) (hu : Is fu (fun v => IsBlk t.b ∧ WAt t.b t.b.length v)) (hf : Is ff (FirstP t)) (h : Is f (LogP t)) :
    (lst fm 8).filter (fun x => decide (x ∈ lst ff 8) || !decide (x ∈ lst fu 8)) = lst f 8 := by
  refine lst_filter 8 (fun v hv => ?_)
  have h1 := hm v hv
  have h2 := hu v hv
  have h3 := hf v hv
  have h4 := h v hv
  have e1 : decide ((v : Int) ∈ lst ff 8) = ff v := by rw [Bool.eq_iff_iff, decide_eq_true_eq, lst_mem]; exact ⟨fun h => h.2, fun h => ⟨hv, h⟩⟩
  have e2 : decide ((v : Int) ∈ lst fu 8) = fu v := by rw [Bool.eq_iff_iff, decide_eq_true_eq, lst_mem]; exact ⟨fun h => h.2, fun h => ⟨hv, h⟩⟩
  rw [e1, e2, Bool.eq_iff_iff, h4]
  simp only [Bool.and_eq_true, Bool.or_eq_true, Bool.not_eq_true', h1, h3]
  have h2n : fu v = false ↔ ¬ WAt t.b t.b.length v := by
    rw [← Bool.not_eq_true, h2]
    exact ⟨fun h e => h ⟨ht.1, e⟩, fun h e => h e.2⟩
  rw [h2n]
  unfold LogP
  exact ⟨fun h => ⟨⟨ht.1, h.2.1⟩, h.2.2⟩, fun h => ⟨ht, h.1.2, h.2⟩⟩
/-- The program's choice: twice without. -/
theorem log_prog {t : Tk} (ht : IsBlk t.b ∧ exprOk t.o t.x t.y = true) {fm fu ff f : Nat → Bool} (hm : Is fm (fun v => IsBlk t.b ∧ MayTo t.b t.b.length v)) (hu : Is fu (fun v => IsBlk t.b ∧ WAt t.b t.b.length v)) (hf : Is ff (FirstP t)) (h : Is f (LogP t)) :
    (lst fm 8).filter (fun x => !decide (x ∈ (lst fu 8).filter (fun y => !decide (y ∈ lst ff 8)))) = lst f 8 := by
  rw [← log_model ht hm hu hf h]
  congr 1
  funext x
  simp only [List.mem_filter]
  rw [Bool.eq_iff_iff]
  simp
  by_cases h1 : x ∈ lst fu 8 <;> by_cases h2 : x ∈ lst ff 8 <;> simp [h1, h2]
theorem log_none {t : Tk} (ht : ¬ (IsBlk t.b ∧ exprOk t.o t.x t.y = true)) {f : Nat → Bool} (h : Is f (LogP t)) : lst f 8 = [] := by
  rw [lst_congr (g := fun _ => false) (fun v hv => by
    cases h9 : f v
    · rfl
    · exact absurd ((h v hv).1 h9).1 ht)]
  exact lst_nil (fun _ => rfl) 8
noncomputable def logF (t : Tk) : Nat → Bool := fun v => @decide (LogP t v) (Classical.propDecidable _)
theorem logF_is (t : Tk) : Is (logF t) (LogP t) := fun v _ => by unfold logF; exact @decide_eq_true_iff _ (Classical.propDecidable _)
/-- How many variables a task logs. -/
noncomputable def logN (t : Tk) : Nat := (lst (logF t) 8).length
theorem logN_le (t : Tk) : logN t ≤ 8 := lst_len _ 8
noncomputable def roomN (P : List Tk) (k : Nat) : Nat := ((P.take k).map logN).foldl max 0
theorem roomN_zero (P : List Tk) : roomN P 0 = 0 := rfl
theorem roomN_succ {P : List Tk} {k : Nat} {t : Tk} (h : P[k]? = some t) : roomN P (k + 1) = max (roomN P k) (logN t) := by
  unfold roomN
  rw [List.take_add_one, h]
  simp [List.foldl_append]
theorem roomN_le (P : List Tk) : ∀ k, roomN P k ≤ 8
  | 0 => by rw [roomN_zero]; omega
  | k + 1 => by
    cases h : P[k]? with
    | none =>
      have : roomN P (k + 1) = roomN P k := by unfold roomN; rw [List.take_add_one, h]; simp
      rw [this]; exact roomN_le P k
    | some t =>
      rw [roomN_succ h]
      have := roomN_le P k
      have := logN_le t
      omega
theorem roomN_ge {P : List Tk} : ∀ {k i : Nat} {t : Tk}, P[i]? = some t → i < k → logN t ≤ roomN P k
  | 0, _, _, _, h => by omega
  | k + 1, i, t, ht, h => by
    cases hk : P[k]? with
    | none =>
      have h1 := (List.getElem?_eq_some_iff.1 ht).1
      have h2 := List.getElem?_eq_none_iff.1 hk
      have h3 : roomN P (k + 1) = roomN P k := by unfold roomN; rw [List.take_add_one, hk]; simp
      rw [h3]; exact roomN_ge (k := k) ht (by omega)
    | some u =>
      rw [roomN_succ hk]
      by_cases e : i = k
      · subst e; rw [hk] at ht; cases ht; omega
      · have := roomN_ge (k := k) ht (by omega); omega
/-- What LogRoom must give. -/
def RoomIs (P : List Tk) (X : Int) : Prop := (IsPrg P ∧ X = roomN P P.length) ∨ (¬ IsPrg P ∧ X = -1)
theorem room_ex (P : List Tk) : ∃ X, RoomIs P X := by
  rcases Classical.em (IsPrg P) with h | h
  · exact ⟨_, .inl ⟨h, rfl⟩⟩
  · exact ⟨_, .inr ⟨h, rfl⟩⟩
theorem RoomIs.yes {P : List Tk} {X : Int} (h : RoomIs P X) (hp : IsPrg P) : X = roomN P P.length := by
  rcases h with ⟨_, h⟩ | ⟨h, _⟩
  · exact h
  · exact absurd hp h
theorem RoomIs.no {P : List Tk} {X : Int} (h : RoomIs P X) (hp : ¬ IsPrg P) : X = -1 := by
  rcases h with ⟨h, _⟩ | ⟨_, h⟩
  · exact absurd h hp
  · exact h
end Go.Proofs.YtmgeecdgebemdaaGreatDoor.sets

/- Chapter 14, plain mathematics: what TraceOf must give; all writes of a trace together do what the task means. -/
namespace Go.Proofs.YtmgeecdgebemdaaGreatDoor.trc
open Go Go.Proofs.YtmgeecdgebemdaaGreatDoor.stm Go.Proofs.YtmgeecdgebemdaaGreatDoor.blk Go.Proofs.YtmgeecdgebemdaaGreatDoor.expr Go.Proofs.YtmgeecdgebemdaaGreatDoor.sets Go.Proofs.YtmgeecdgebemdaaGreatDoor.val Go.Proofs.YtmgeecdgebemdaaGreatDoor.prg Go.Proofs.YtmgeecdgebemdaaGreatDoor.exe Go.Proofs.YtmgeecdgebemdaaGreatDoor.wrt Go.Proofs.YtmgeecdgebemdaaGreatDoor.ctl Go.Proofs.YtmgeecdgebemdaaGreatDoor.mem

/-- The arguments of TraceOf are valid. -/
def TrOk (P : List Tk) (Mem R : List Int) (z : Int) : Prop := MemIs P Mem ∧ wC (Mem.getD 8 0) = 0 ∧ (0 ≤ z ∧ z ≤ 1000000) ∧ allV R = true
/-- The execution of the current task with its steps. -/
noncomputable def trRun (Mem R : List Int) (z : Int) (t : Tk) (T : Fst) : Tx := texec (liveSrc R z) (lst (logF t) 8) (wT (Mem.getD 8 0)) (wN (Mem.getD 8 0)) T ⟨⟨Mem.take 8, [], []⟩, [], []⟩
/-- The last step. -/
def endM (P : List Tk) (t : Tk) (tl : Int) (y : Tx) : List Mic := [⟨1, -1, 0⟩, wrM 8 (packV (nx (evalV y.x.V t.o t.x t.y) P.length) 0 (min 24 (tl + y.x.S.length)))]
/-- What TraceOf must give. -/
def TraceIs (P : List Tk) (Mem R : List Int) (z : Int) (r : Bool) (M : List Mic) (U : List Int) : Prop :=
  (r = false ∧ M = [] ∧ U = [] ∧ ¬ TrOk P Mem R z) ∨
    (r = true ∧ TrOk P Mem R z ∧ ∃ t T, TaskAt P (Mem.take 8) R (wT (Mem.getD 8 0)) t T ∧ M = (trRun Mem R z t T).M ++ endM P t (wN (Mem.getD 8 0)) (trRun Mem R z t T) ∧ U = (trRun Mem R z t T).x.U)
theorem mem_vars {P : List Tk} {Mem : List Int} (h : MemIs P Mem) : varsOk (Mem.take 8) = true := (varsOk_iff _).2 ⟨by rw [List.length_take, h.2.1]; rfl, fun x hx => List.all_eq_true.1 h.2.2.2.2.1 x hx⟩
theorem mem_ctl {P : List Tk} {Mem : List Int} (h : MemIs P Mem) : 0 ≤ wT (Mem.getD 8 0) ∧ wT (Mem.getD 8 0) < P.length ∧ 0 ≤ wC (Mem.getD 8 0) ∧ wC (Mem.getD 8 0) ≤ 8 ∧ 0 ≤ wN (Mem.getD 8 0) ∧ wN (Mem.getD 8 0) ≤ 24 := by
  have h1 := (ctlOk_iff _ _ _).1 h.2.2.1
  have h2 := h.2.2.2.1
  omega
theorem trOk_task {P : List Tk} {Mem R : List Int} {z : Int} (h : TrOk P Mem R z) : ∃ t T, TaskAt P (Mem.take 8) R (wT (Mem.getD 8 0)) t T := by
  have hc := mem_ctl h.1
  obtain ⟨j, hj⟩ : ∃ j : Nat, wT (Mem.getD 8 0) = j := ⟨(wT (Mem.getD 8 0)).toNat, by omega⟩
  rw [hj]
  obtain ⟨t, T, _, hT⟩ := taskAt_ex (j := j) h.1.1 (mem_vars h.1) h.2.2.2 (by omega)
  exact ⟨t, T, hT⟩
theorem trOk_dec (P : List Tk) (Mem R : List Int) (z : Int) : ∃ r : Bool, r = true ↔ TrOk P Mem R z := by
  rcases Classical.em (TrOk P Mem R z) with h | h
  · exact ⟨true, by simp [h]⟩
  · exact ⟨false, by simp [h]⟩
theorem traceIs_ex (P : List Tk) (Mem R : List Int) (z : Int) : ∃ r M U, TraceIs P Mem R z r M U := by
  rcases Classical.em (TrOk P Mem R z) with h | h
  · obtain ⟨t, T, hT⟩ := trOk_task h
    exact ⟨true, _, _, .inr ⟨rfl, h, t, T, hT, rfl, rfl⟩⟩
  · exact ⟨false, [], [], .inl ⟨rfl, rfl, rfl, h⟩⟩
theorem task_par {P : List Tk} {V Y : List Int} {i : Int} {t : Tk} {T : Fst} (h : TaskAt P V Y i t T) : IsBlk t.b ∧ Par t.b 0 t.b.length T := by
  have hb := h.blk.1
  obtain ⟨_, _, _, j, _, _, hp⟩ := h
  exact ⟨hb, hp⟩
theorem trRun_x (Mem R : List Int) (z : Int) (t : Tk) (T : Fst) : (trRun Mem R z t T).x = exec (liveSrc R z) T ⟨Mem.take 8, [], []⟩ := texec_x T _
theorem trRun_len {P : List Tk} {V Y : List Int} {i : Int} {t : Tk} {T : Fst} (h : TaskAt P V Y i t T) (Mem R : List Int) (z : Int) : (trRun Mem R z t T).M.length ≤ 15000 := by
  obtain ⟨hb, hp⟩ := task_par h
  have h1 : ((trRun Mem R z t T).M.length : Int) ≤ ((0 : Nat) : Int) + cntS T := texec_len (liveSrc R z) (lst (logF t) 8) (wT (Mem.getD 8 0)) (wN (Mem.getD 8 0)) T ⟨⟨Mem.take 8, [], []⟩, [], []⟩
  have h2 := cntS_small hb hp
  omega
theorem TraceIs.size {P : List Tk} {Mem R : List Int} {z : Int} {r : Bool} {M : List Mic} {U : List Int} (h : TraceIs P Mem R z r M U) : M.length ≤ 15002 ∧ U.length ≤ 3000 := by
  rcases h with ⟨_, rfl, rfl, _⟩ | ⟨_, _, t, T, hT, rfl, rfl⟩
  · simp
  · have h1 := trRun_len hT Mem R z
    have h2 := hT.small (liveSrc R z)
    rw [trRun_x]
    refine ⟨by simp [endM]; omega, by omega⟩
/-- The steps cost something, and not much. -/
theorem TraceIs.cost {P : List Tk} {Mem R : List Int} {z : Int} {M : List Mic} {U : List Int} (h : TraceIs P Mem R z true M U) : CostOk M ∧ M ≠ [] := by
  rcases h with ⟨e, _⟩ | ⟨_, _, t, T, hT, rfl, _⟩
  · cases e
  · obtain ⟨hb, hp⟩ := task_par hT
    refine ⟨(texec_cost T (par_allS hb hp) _ nil_cost).app ?_, by simp [endM]⟩
    intro m hm
    rcases List.mem_cons.1 hm with rfl | hm
    · decide
    · rw [List.mem_singleton.1 hm]; simp [wrM]
theorem sent_at {Mem : List Int} {tl : Nat} {S : List Int} (hl : Mem.length = 49) (h24 : tl ≤ 24) {X : List Int} (hb : ∀ j, X[25 + j]? = boxAt Mem S tl j) {e : Nat} (he : e = min 24 (tl + S.length)) : (X.drop 25).take e = ((Mem.drop 25).take tl ++ S).take 24 := by
  refine List.ext_getElem? fun j => ?_
  have hlen : ((Mem.drop 25).take tl).length = tl := by rw [List.length_take, List.length_drop, hl]; omega
  by_cases hj : j < e
  · rw [List.getElem?_take_of_lt hj, List.getElem?_drop, hb j, List.getElem?_take_of_lt (by omega)]
    unfold boxAt
    by_cases hc : tl ≤ j
    · rw [if_pos ⟨hc, by omega, by omega⟩, List.getElem?_append_right (by omega), hlen]
    · rw [if_neg (by omega), List.getElem?_append_left (by omega), List.getElem?_take_of_lt (by omega), List.getElem?_drop]
  · rw [List.getElem?_eq_none (by rw [List.length_take]; omega), List.getElem?_eq_none (by rw [List.length_take, List.length_append, hlen]; omega)]
/-- All writes of a trace together do what the task means. -/
theorem trace_does {P : List Tk} {Mem R U : List Int} {z : Int} {M : List Mic} (h : TraceIs P Mem R z true M U) {r : Bool} {E : Eff} (hE : EffIs P (Mem.take 8) U (wT (Mem.getD 8 0)) r E) :
    r = true ∧ E.U = U.length ∧ (putAll Mem (wrs M)).length = 49 ∧ (putAll Mem (wrs M)).take 8 = E.V ∧
      (wOk ((putAll Mem (wrs M)).getD 8 0) = true ∧ wT ((putAll Mem (wrs M)).getD 8 0) = E.N ∧ wC ((putAll Mem (wrs M)).getD 8 0) = 0 ∧ wN ((putAll Mem (wrs M)).getD 8 0) = min 24 (wN (Mem.getD 8 0) + E.S.length)) ∧
      sentV (putAll Mem (wrs M)) = (sentV Mem ++ E.S).take 24 := by
  rcases h with ⟨e, _⟩ | ⟨_, hok, t, T, hT, rfl, rfl⟩
  · cases e
  obtain ⟨hb, hp⟩ := task_par hT
  have hc := mem_ctl hok.1
  obtain ⟨tl, htl⟩ : ∃ tl : Nat, wN (Mem.getD 8 0) = tl := ⟨(wN (Mem.getD 8 0)).toNat, by omega⟩
  obtain ⟨y, hy⟩ : ∃ y, trRun Mem R z t T = y := ⟨_, rfl⟩
  have hyx : y.x = exec (liveSrc R z) T ⟨Mem.take 8, [], []⟩ := by rw [← hy]; exact trRun_x ..
  have hg := hT.good (liveSrc_val R z)
  rw [← hyx] at hg
  have hT2 : TaskAt P (Mem.take 8) y.x.U (wT (Mem.getD 8 0)) t T := ⟨hT.1, hT.2.1, (allV_iff _).2 hg.2.2, hT.2.2.2⟩
  have hsrc : exec (listSrc y.x.U) T ⟨Mem.take 8, [], []⟩ = y.x := by
    rw [hyx]; exact exec_src T _ (List.prefix_refl _)
  rw [hy] at hE ⊢
  obtain ⟨rfl, rfl⟩ : r = true ∧ E = effOf P t y.x := by
    rcases hE with ⟨_, _, h⟩ | ⟨h1, t', T', h, h2⟩
    · exact (hT2.not h).elim
    · obtain ⟨rfl, rfl⟩ := hT2.unique h
      exact ⟨h1, by rw [h2, hsrc]⟩
  have hinv : MemInv (lst (logF t) 8) Mem tl y := by
    rw [← hy]
    unfold trRun
    rw [htl]
    refine texec_mem (lst_vrs _) T (par_allS hb hp) _ ⟨⟨List.nodup_nil, fun k hk => by cases hk⟩, hok.1.2.1, rfl, fun j => (boxAt_nil _ _ _).symm⟩
  obtain ⟨_, i2, i3, i4⟩ := hinv
  have hw : putAll Mem (wrs (y.M ++ endM P t (wN (Mem.getD 8 0)) y)) = put1 (putAll Mem (wrs y.M)) ⟨8, packV (nx (evalV y.x.V t.o t.x t.y) P.length) 0 (min 24 (wN (Mem.getD 8 0) + y.x.S.length))⟩ := by
    rw [wrs_app, putAll_app]
    rfl
  rw [hw]
  obtain ⟨c, hcv⟩ : ∃ c, packV (nx (evalV y.x.V t.o t.x t.y) P.length) 0 (min 24 (wN (Mem.getD 8 0) + y.x.S.length)) = c := ⟨_, rfl⟩
  rw [hcv]
  have hm := put_mid i2 (p := 8) (v := c) (by omega) (by omega)
  have hP := hT.1.1
  have hP6 := hT.1.2.1
  have hnx := nx_range (v := evalV y.x.V t.o t.x t.y) (n := P.length) (by omega)
  have hco : ctlOk (nx (evalV y.x.V t.o t.x t.y) P.length) 0 (min 24 (wN (Mem.getD 8 0) + y.x.S.length)) = true := (ctlOk_iff _ _ _).2 (by omega)
  have hpp := parts_pack hco
  rw [hcv] at hpp
  have h8 : (put1 (putAll Mem (wrs y.M)) ⟨8, c⟩).getD 8 0 = c := by
    rw [put1_in (k := 8) rfl (by omega), List.getD_eq_getElem?_getD, List.getElem?_set_self (by omega)]
    rfl
  have hwok : wOk c = true := by unfold wOk; rw [hpp.1, hpp.2.1, hpp.2.2]; exact hco
  refine ⟨rfl, rfl, by rw [put1_len, i2], by rw [hm.1, i3]; rfl, ⟨by rw [h8]; exact hwok, by rw [h8]; exact hpp.1, by rw [h8]; exact hpp.2.1, by rw [h8]; exact hpp.2.2⟩, ?_⟩
  unfold sentV
  rw [h8, if_pos hwok, if_pos hok.1.2.2.1, hpp.2.2, htl, show ((tl : Int)).toNat = tl by omega]
  exact sent_at (S := y.x.S) hok.1.2.1 (by omega) (fun j => by rw [hm.2 j, i4 j]) (by omega)
end Go.Proofs.YtmgeecdgebemdaaGreatDoor.trc

/- Rows of structs of 'm' cells each: what it is for a slice to read as a list of them, for every kind of struct at once. -/
namespace Go.Proofs.YtmgeecdgebemdaaGreatDoor.grow
open Go Go.ChangeShapes Go.WideShapes Go.ChangeAt Go.RowKit Go.Proofs.YtmgeecdgebemdaaGreatDoor.row

/-- The slice at 'a' of 'n' elements of 'm' cells each reads as the list 'L'. -/
def GRow {α : Type} (C : α → List Value) (m : Nat) (w : World) (a : Option Addr) (n : Nat) (L : List α) : Prop :=
  L.length = n ∧ ∀ k, k < n → ∃ (b off : Nat) (s : α), a = some ⟨b, off, none⟩ ∧ b < w.heap.size ∧ L[k]? = some s ∧ w.rangeAt b (off + k * m) (C s)
theorem GRow.below {α : Type} {C : α → List Value} {m : Nat} {w w' : World} {a : Option Addr} {n : Nat} {L : List α} (h : GRow C m w a n L) (hb : Below w.heap.size w w') : GRow C m w' a n L :=
  ⟨h.1, fun k hk => by
    obtain ⟨b, off, s, rfl, hlt, hs, hr⟩ := h.2 k hk
    exact ⟨b, off, s, rfl, Nat.lt_of_lt_of_le hlt hb.size, hs, fun j v hv => (hb.cell (p := ⟨b, off + k * m + j, none⟩) hlt).trans (hr j v hv)⟩⟩
theorem GRow.grown {α : Type} {C : α → List Value} {m : Nat} {w w' : World} {r : Option Nat} {a : Option Addr} {n : Nat} {L : List α} (h : GRow C m w a n L) (hg : w.grownBy w' r) (hne : ∀ b off, a = some ⟨b, off, none⟩ → some b ≠ r) : GRow C m w' a n L :=
  ⟨h.1, fun k hk => by
    obtain ⟨b, off, s, rfl, hlt, hs, hr⟩ := h.2 k hk
    exact ⟨b, off, s, rfl, Nat.lt_of_lt_of_le hlt hg.size, hs, fun j v hv => hg.cell (hr j v hv) (hne b off rfl)⟩⟩
theorem GRow.nil {α : Type} (C : α → List Value) (m : Nat) (w : World) (a : Option Addr) : GRow C m w a 0 ([] : List α) := ⟨rfl, fun k hk => by omega⟩
theorem GRow.take {α : Type} {C : α → List Value} {m : Nat} {w : World} {a : Option Addr} {n : Nat} {L : List α} (h : GRow C m w a n L) (k : Nat) (hk : k ≤ n) : GRow C m w a k (L.take k) :=
  ⟨by rw [List.length_take, h.1]; omega, fun j hj => by
    obtain ⟨b, off, s, e, hlt, hs, hr⟩ := h.2 j (by omega)
    exact ⟨b, off, s, e, hlt, by rw [List.getElem?_take, if_pos hj]; exact hs, hr⟩⟩
theorem GRow.drop {α : Type} {C : α → List Value} {m : Nat} {w : World} {b off n : Nat} {L : List α} (h : GRow C m w (some ⟨b, off, none⟩) n L) (o : Nat) (ho : o ≤ n) : GRow C m w (some ⟨b, off + o * m, none⟩) (n - o) (L.drop o) :=
  ⟨by rw [List.length_drop, h.1], fun j hj => by
    obtain ⟨b', off', s, e, hlt, hs, hr⟩ := h.2 (o + j) (by omega)
    cases e
    exact ⟨b, off + o * m, s, rfl, hlt, by rw [List.getElem?_drop]; exact hs, by rw [show off + o * m + j * m = off + (o + j) * m by rw [Nat.add_mul]; omega]; exact hr⟩⟩

/-- The cells of a list of structs. -/
def gcs {α : Type} (C : α → List Value) (L : List α) : List Value := L.flatMap C
theorem gcs_len {α : Type} {C : α → List Value} {m : Nat} (hC : ∀ s, (C s).length = m) (L : List α) : (gcs C L).length = L.length * m := by
  induction L with
  | nil => simp [gcs]
  | cons s L ih => simp only [gcs, List.flatMap_cons, List.length_append, List.length_cons] at *; rw [ih, hC, Nat.add_mul]; omega
theorem gcs_app {α : Type} (C : α → List Value) (L M : List α) : gcs C (L ++ M) = gcs C L ++ gcs C M := by simp [gcs]
theorem gcs_one {α : Type} (C : α → List Value) (s : α) : gcs C [s] = C s := by simp [gcs]
theorem gcs_at {α : Type} {C : α → List Value} {m : Nat} (hC : ∀ s, (C s).length = m) {L : List α} {i : Nat} {s : α} (h : L[i]? = some s) (j : Nat) (hj : j < m) : (gcs C L)[i * m + j]? = (C s)[j]? := by
  induction L generalizing i with
  | nil => simp at h
  | cons t L ih =>
    have e : gcs C (t :: L) = C t ++ gcs C L := by simp [gcs]
    have lm : (C t).length = m := hC t
    cases i with
    | zero =>
      simp at h; subst h
      rw [e, List.getElem?_append_left (by omega)]; congr 1; omega
    | succ i =>
      simp at h
      rw [e, List.getElem?_append_right (by rw [lm, Nat.add_mul]; omega), lm, show (i + 1) * m + j - m = i * m + j by rw [Nat.add_mul]; omega]
      exact ih h
theorem GRow.of_box {α : Type} {C : α → List Value} {m : Nat} (hC : ∀ s, (C s).length = m) {w : World} {g n : Nat} {L : List α} {t : TypeId} (h : Box g (gcs C L).toArray t w) (hl : L.length = n) : GRow C m w (some ⟨g, 0, none⟩) n L :=
  ⟨hl, fun k hk => ⟨g, 0, L[k]'(by omega), rfl, h.lt, by simp [show k < L.length by omega], fun j v hv => by
    have hj : j < m := by have := (List.getElem?_eq_some_iff.1 hv).1; rwa [hC] at this
    have h2 := gcs_at hC (L := L) (i := k) (s := L[k]'(by omega)) (by simp [show k < L.length by omega]) j hj
    rw [show 0 + k * m + j = k * m + j by omega, h.cell, List.getElem?_toArray, h2, hv]⟩⟩
theorem GRow.of_own {α : Type} {C : α → List Value} {m : Nat} (hC : ∀ s, (C s).length = m) {w : World} {base : Nat} {a : Option Addr} {n cap : Nat} {L : List α} {t : TypeId} (hm : 0 < m) (h : w.ownsRow base t m (.slice a n cap) n (gcs C L)) : GRow C m w a n L := by
  have hl : L.length = n := by have := h.1; rw [gcs_len hC] at this; exact Nat.eq_of_mul_eq_mul_right hm this
  refine ⟨hl, fun k hk => ?_⟩
  obtain ⟨g, c, hv, _, hg⟩ := h.form (by omega)
  injection hv with h1 h2 h3
  subst h1
  refine ⟨g, 0, L[k], rfl, hg, by simp [hl, hk], fun j v hjv => ?_⟩
  have hj : j < m := by have := (List.getElem?_eq_some_iff.1 hjv).1; rwa [hC] at this
  have h4 := gcs_at hC (L := L) (i := k) (s := L[k]) (by simp [hl, hk]) j hj
  have hlt : k * m + j < n * m := by
    have : (k + 1) * m ≤ n * m := Nat.mul_le_mul_right m hk
    rw [Nat.add_mul] at this; omega
  rw [show 0 + k * m + j = k * m + j by omega, h.cellAt (k * m + j) hlt, h4, hjv]
theorem setAll_mid : ∀ (vs A B C : List Value), B.length = vs.length → setAll (A ++ (B ++ C)).toArray A.length vs = (A ++ (vs ++ C)).toArray
  | [], A, B, C, h => by
    obtain rfl : B = [] := List.eq_nil_of_length_eq_zero h
    rfl
  | v :: r, A, b :: B, C, h => by
    have e : (A ++ (b :: B ++ C)).toArray.setIfInBounds A.length v = ((A ++ [v]) ++ (B ++ C)).toArray := by
      simp [List.setIfInBounds_toArray, List.set_append_right]
    show setAll ((A ++ (b :: B ++ C)).toArray.setIfInBounds A.length v) (A.length + 1) r = _
    rw [e]
    have := setAll_mid r (A ++ [v]) B C (by simpa using h)
    rw [List.length_append, List.length_singleton] at this
    rw [this]; simp
  | _ :: _, _, [], _, h => by simp at h
theorem copy_next {α : Type} {C : α → List Value} {m : Nat} (hC : ∀ s, (C s).length = m) {L : List α} {n k : Nat} {s : α} (z : Value) (hl : L.length = n) (hk : k < n) (hs : L[k]? = some s) :
    setAll (gcs C (L.take k) ++ List.replicate ((n - k) * m) z).toArray (k * m) (C s) = (gcs C (L.take (k + 1)) ++ List.replicate ((n - (k + 1)) * m) z).toArray := by
  have e1 : (n - k) * m = m + (n - (k + 1)) * m := by rw [show n - k = (n - (k + 1)) + 1 by omega, Nat.add_mul]; omega
  have e2 : k * m = (gcs C (L.take k)).length := by rw [gcs_len hC, List.length_take, Nat.min_eq_left (by omega)]
  rw [e1, ← List.replicate_append_replicate, e2, setAll_mid _ _ _ _ (by simp [hC])]
  rw [List.take_add_one, hs, gcs_app]
  simp [gcs]
theorem own_box {w : World} {base g n m : Nat} {t : TypeId} {xs : List Value} (h : w.ownsRow base t m (.slice (some ⟨g, 0, none⟩) n n) n xs) : Box g xs.toArray t w := by
  rcases h.2 with ⟨h0, _⟩ | ⟨g', cap, cur, hv, _, hg, _, _, hs, ht⟩
  · simp at h0
  · simp only [Value.slice.injEq, Option.some.injEq, Addr.mk.injEq, and_true, true_and] at hv
    obtain ⟨rfl, rfl⟩ := hv
    have e : xs = cur.toList := by rw [← ht]; exact List.take_of_length_le (by rw [Array.length_toList, hs]; exact Nat.le_refl _)
    unfold Box
    rw [e, Array.toArray_toList]; exact hg
theorem made_same {zs : Array Value} {z : Value} (hm : 0 < zs.size) (hz : ∀ i, i < zs.size → zs[i]! = z) (n : Nat) : (madeCells zs n).toList = List.replicate n z := by
  apply List.ext_getElem?
  intro j
  by_cases hj : j < n
  · rw [List.getElem?_replicate, if_pos hj]
    simp only [madeCells, Array.toList_map, List.getElem?_map, Array.toList_range, List.getElem?_range hj, Option.map_some]
    rw [hz _ (Nat.mod_lt _ hm)]
  · rw [List.getElem?_eq_none (by rw [Array.length_toList, size_madeCells]; omega), List.getElem?_eq_none (by rw [List.length_replicate]; omega)]
theorem range_lt {w : World} {g o : Nat} {cs : List Value} (h : w.rangeAt g o cs) (hp : 0 < cs.length) : g < w.heap.size :=
  World.block_lt_of_cell? w ⟨g, o + 0, none⟩ (h 0 _ (by rw [List.getElem?_eq_getElem hp]))
theorem range_below {w w' : World} {g o : Nat} {cs : List Value} (h : w.rangeAt g o cs) (hg : g < w.heap.size) (hb : Below w.heap.size w w') : w'.rangeAt g o cs :=
  fun j v hv => (hb.cell (p := ⟨g, o + j, none⟩) hg).trans (h j v hv)
theorem setAll_size : ∀ (vs : List Value) (cs : Array Value) (o : Nat), (setAll cs o vs).size = cs.size
  | [], _, _ => rfl
  | v :: r, cs, o => by show (setAll (cs.setIfInBounds o v) (o + 1) r).size = _; rw [setAll_size r]; simp
theorem setAll_out : ∀ (vs : List Value) (cs : Array Value) (o j : Nat), j < o ∨ o + vs.length ≤ j → (setAll cs o vs)[j]? = cs[j]?
  | [], _, _, _, _ => rfl
  | v :: r, cs, o, j, h => by
    show (setAll (cs.setIfInBounds o v) (o + 1) r)[j]? = _
    rw [setAll_out r _ _ _ (by simp at h; omega)]
    rw [Array.getElem?_setIfInBounds_ne (by simp at h; omega)]
theorem setAll_in : ∀ (vs : List Value) (cs : Array Value) (o i : Nat), i < vs.length → o + vs.length ≤ cs.size → (setAll cs o vs)[o + i]? = vs[i]?
  | [], _, _, _, h, _ => by simp at h
  | v :: r, cs, o, 0, _, hs => by
    show (setAll (cs.setIfInBounds o v) (o + 1) r)[o + 0]? = _
    rw [setAll_out r _ _ _ (by omega)]
    simp at hs
    simp [show o < cs.size by omega]
  | v :: r, cs, o, i + 1, h, hs => by
    show (setAll (cs.setIfInBounds o v) (o + 1) r)[o + (i + 1)]? = _
    have := setAll_in r (cs.setIfInBounds o v) (o + 1) i (by simpa using h) (by simp at hs ⊢; omega)
    rw [show o + (i + 1) = o + 1 + i by omega, this]; simp
/-- The cells from 0 to 'q' hold the numbers from 'k' on. -/
def Nums (cs : Array Value) (k : Int) (q : Nat) : Prop := ∀ j : Nat, j < q → cs[j]? = some (.int .i64 (k + j))
theorem list_of {α : Type} {P : Nat → α → Prop} : ∀ n, (∀ i, i < n → ∃ s, P i s) → ∃ L : List α, L.length = n ∧ ∀ i s, L[i]? = some s → P i s
  | 0, _ => ⟨[], rfl, fun i s h => by simp at h⟩
  | n + 1, h => by
    obtain ⟨L, hl, hL⟩ := list_of n (fun i hi => h i (by omega))
    obtain ⟨s, hs⟩ := h n (by omega)
    refine ⟨L ++ [s], by simp [hl], fun i t ht => ?_⟩
    by_cases hi : i < L.length
    · rw [List.getElem?_append_left hi] at ht; exact hL i t ht
    · have hil := (List.getElem?_eq_some_iff.1 ht).1
      simp at hil
      obtain rfl : i = n := by omega
      rw [List.getElem?_append_right (by omega), hl, Nat.sub_self] at ht
      simp at ht; subst ht; exact hs
end Go.Proofs.YtmgeecdgebemdaaGreatDoor.grow

/- What a law's argument is made of, by its type: a struct of numbers is its fields. -/
namespace Go.Proofs.YtmgeecdgebemdaaGreatDoor.opn
open Go.ChangeShapes Go.WideShapes Go.ChangeAt Go.RowKit Go.Joins Go.Deep

/-- An expression that came in: three numbers. -/
def IsExpr (_ : World) (v : Value) : Prop := ∃ o a b : Int, v = .agg #[.int .i64 o, .int .i64 a, .int .i64 b] ∧ (Lit.int .i64 o).wf = true ∧ (Lit.int .i64 a).wf = true ∧ (Lit.int .i64 b).wf = true
set_option maxRecDepth 100000 in
theorem open_Expr {H : Type} {enc : TypeId × Value → H} {w w' : World} {base : Nat} {spare : Nat → Bool} {held : Bool} {r : Reach} {b0 : Nat} {v : Value} {d : DataW H} {p : List MemPlace}
    (hv : Value.okWide Tryz.prog w r b0 150 v) (h : DataW.Trod enc Tryz.prog w base spare held 150 v d p) : IsExpr w' v := by
  obtain ⟨v0, v1, v2, y0, y1, y2, n, rfl, _, _, h0, h1, h2⟩ := open_agg3 Tryz.underlying150 (by kernel_rfl) (by kernel_rfl) hv h
  obtain ⟨o, e0, _, w0⟩ := DataW.trod_int Tryz.underlying3 h0
  obtain ⟨a, e1, _, w1⟩ := DataW.trod_int Tryz.underlying3 h1
  obtain ⟨b, e2, _, w2⟩ := DataW.trod_int Tryz.underlying3 h2
  simp at e0 e1 e2
  subst e0 e1 e2
  exact ⟨o, a, b, rfl, w0, w1, w2⟩
/-- A statement that came in: six numbers. -/
def IsStmt (_ : World) (v : Value) : Prop := ∃ k x n o a b : Int, v = .agg #[.int .i64 k, .int .i64 x, .int .i64 n, .int .i64 o, .int .i64 a, .int .i64 b] ∧
  (Lit.int .i64 k).wf = true ∧ (Lit.int .i64 x).wf = true ∧ (Lit.int .i64 n).wf = true ∧ (Lit.int .i64 o).wf = true ∧ (Lit.int .i64 a).wf = true ∧ (Lit.int .i64 b).wf = true
set_option maxRecDepth 100000 in
theorem open_Stmt {H : Type} {enc : TypeId × Value → H} {w w' : World} {base : Nat} {spare : Nat → Bool} {held : Bool} {r : Reach} {b0 : Nat} {v : Value} {d : DataW H} {p : List MemPlace}
    (hv : Value.okWide Tryz.prog w r b0 222 v) (h : DataW.Trod enc Tryz.prog w base spare held 222 v d p) : IsStmt w' v := by
  obtain ⟨⟨cs⟩, rfl, hsz⟩ := okWide_struct Tryz.underlying222 hv
  obtain ⟨fuel, hf⟩ := h
  have hC : Tryz.prog.cellsOf 222 = 6 := by kernel_rfl
  have hI : Tryz.prog.cellsOf 3 = 1 := by kernel_rfl
  have hE : Tryz.prog.cellsOf 150 = 3 := by kernel_rfl
  rw [hC] at hsz
  match cs, hsz, hf with
  | [c0, c1, c2, c3, c4, c5], _, hf =>
    obtain ⟨y0, y1, y2, y3, m, _, _, h0, h1, h2, h3⟩ := trod_struct4 Tryz.underlying222 hf
    simp [Value.cells, hI, hE] at h0 h1 h2 h3
    obtain ⟨z0, z1, z2, m2, _, _, h4, h5, h6⟩ := trod_struct3 Tryz.underlying150 h3
    simp [hI] at h4 h5 h6
    obtain ⟨k, e0, _, w0⟩ := DataW.trod_int Tryz.underlying3 h0
    obtain ⟨x, e1, _, w1⟩ := DataW.trod_int Tryz.underlying3 h1
    obtain ⟨n, e2, _, w2⟩ := DataW.trod_int Tryz.underlying3 h2
    obtain ⟨o, e3, _, w3⟩ := DataW.trod_int Tryz.underlying3 h4
    obtain ⟨a, e4, _, w4⟩ := DataW.trod_int Tryz.underlying3 h5
    obtain ⟨b, e5, _, w5⟩ := DataW.trod_int Tryz.underlying3 h6
    simp at e0 e1 e2 e3 e4 e5
    subst e0 e1 e2 e3 e4 e5
    exact ⟨k, x, n, o, a, b, rfl, w0, w1, w2, w3, w4, w5⟩
end Go.Proofs.YtmgeecdgebemdaaGreatDoor.opn
