/- Several texts in one: LogA TrcB WtR TrcV. -/
import Derived.Test.YtcmhiadaebpgmaaGreatDoorGSig23
import Derived.Test.YtcmhiadaebpgmaaGreatDoorGSig20
import Derived.Test.YtcmhiadaebpgmaaGreatDoorGSig9
import Derived.Test.YtcmhiadaebpgmaaGreatDoorGSig21
import Derived.Test.YtcmhiadaebpgmaaGreatDoorGSig5
import Derived.Test.YtcmhiadaebpgmaaGreatDoorGSig10
import Derived.Test.YtcmhiadaebpgmaaGreatDoorGSig0
import Derived.Test.YtcmhiadaebpgmaaGreatDoorGSig1
import Derived.Test.YtcmhiadaebpgmaaGreatDoorGSig4
import Derived.Deep.Slices
import Derived.Deep.RegionHeld3

/- What must be logged: plain mathematics. -/
namespace Go.Proofs.YtcmhiadaebpgmaaGreatDoor.sets
open Go Go.Proofs.YtcmhiadaebpgmaaGreatDoor.stm Go.Proofs.YtcmhiadaebpgmaaGreatDoor.blk Go.Proofs.YtcmhiadaebpgmaaGreatDoor.expr Go.Proofs.YtcmhiadaebpgmaaGreatDoor.prg

/-- The variable must be logged. -/
def LogP (t : Tk) (v : Nat) : Prop := (IsBlk t.b ∧ exprOk t.o t.x t.y = true) ∧ MayTo t.b t.b.length v ∧ (FirstP t v ∨ ¬ WAt t.b t.b.length v)
theorem is_ex (p : Nat → Prop) : ∃ f, Is f p := by
  classical exact ⟨fun v => decide (p v), fun v _ => decide_eq_true_iff⟩
theorem lst_filter {f g : Nat → Bool} {p : Int → Bool} : ∀ k, (∀ v : Nat, v < k → g v = (f v && p v)) → (lst f k).filter p = lst g k
  | 0, _ => rfl
  | k + 1, h => by
    have ih := lst_filter (f := f) (g := g) (p := p) k (fun v hv => h v (by omega))
    have hk := h k (by omega)
    cases hf : f k
    · rw [hf, Bool.false_and] at hk
      rw [lst_no hf, lst_no hk, ih]
    · rw [hf, Bool.true_and] at hk
      rw [lst_yes hf, List.filter_append, ih]
      cases hp : p k
      · rw [hp] at hk
        rw [lst_no hk]; simp [hp]
      · rw [hp] at hk
        rw [lst_yes hk]; simp [hp]
/-- The model's choice. -/
theorem log_model {t : Tk} (ht : IsBlk t.b ∧ exprOk t.o t.x t.y = true) {fm fu ff f : Nat → Bool} (hm : Is fm (fun v => IsBlk t.b ∧ MayTo t.b t.b.length v)) (hu : Is fu (fun v => IsBlk t.b ∧ WAt t.b t.b.length v)) (hf : Is ff (FirstP t)) (h : Is f (LogP t)) :
    (lst fm 8).filter (fun x => decide (x ∈ lst ff 8) || !decide (x ∈ lst fu 8)) = lst f 8 := by
  refine lst_filter 8 (fun v hv => ?_)
  have h1 := hm v hv
  have h2 := hu v hv
  have h3 := hf v hv
  have h4 := h v hv
  have e1 : decide ((v : Int) ∈ lst ff 8) = ff v := by rw [Bool.eq_iff_iff, decide_eq_true_eq, lst_mem]; exact ⟨fun h => h.2, fun h => ⟨hv, h⟩⟩
  have e2 : decide ((v : Int) ∈ lst fu 8) = fu v := by rw [Bool.eq_iff_iff, decide_eq_true_eq, lst_mem]; exact ⟨fun h => h.2, fun h => ⟨hv, h⟩⟩
  rw [e1, e2, Bool.eq_iff_iff, h4]
  simp only [Bool.and_eq_true, Bool.or_eq_true, Bool.not_eq_true', h1, h3]
  have h2n : fu v = false ↔ ¬ WAt t.b t.b.length v := by
    rw [← Bool.not_eq_true, h2]
    exact ⟨fun h e => h ⟨ht.1, e⟩, fun h e => h e.2⟩
  rw [h2n]
  unfold LogP
  exact ⟨fun h => ⟨⟨ht.1, h.2.1⟩, h.2.2⟩, fun h => ⟨ht, h.1.2, h.2⟩⟩
/-- The program's choice: twice without. -/
theorem log_prog {t : Tk} (ht : IsBlk t.b ∧ exprOk t.o t.x t.y = true) {fm fu ff f : Nat → Bool} (hm : Is fm (fun v => IsBlk t.b ∧ MayTo t.b t.b.length v)) (hu : Is fu (fun v => IsBlk t.b ∧ WAt t.b t.b.length v)) (hf : Is ff (FirstP t)) (h : Is f (LogP t)) :
    (lst fm 8).filter (fun x => !decide (x ∈ (lst fu 8).filter (fun y => !decide (y ∈ lst ff 8)))) = lst f 8 := by
  rw [← log_model ht hm hu hf h]
  congr 1
  funext x
  simp only [List.mem_filter]
  rw [Bool.eq_iff_iff]
  simp
  by_cases h1 : x ∈ lst fu 8 <;> by_cases h2 : x ∈ lst ff 8 <;> simp [h1, h2]
theorem log_none {t : Tk} (ht : ¬ (IsBlk t.b ∧ exprOk t.o t.x t.y = true)) {f : Nat → Bool} (h : Is f (LogP t)) : lst f 8 = [] := by
  rw [lst_congr (g := fun _ => false) (fun v hv => by
    cases h9 : f v
    · rfl
    · exact absurd ((h v hv).1 h9).1 ht)]
  exact lst_nil (fun _ => rfl) 8
noncomputable def logF (t : Tk) : Nat → Bool := fun v => @decide (LogP t v) (Classical.propDecidable _)
theorem logF_is (t : Tk) : Is (logF t) (LogP t) := fun v _ => by unfold logF; exact @decide_eq_true_iff _ (Classical.propDecidable _)
/-- How many variables a task logs. -/
noncomputable def logN (t : Tk) : Nat := (lst (logF t) 8).length
theorem logN_le (t : Tk) : logN t ≤ 8 := lst_len _ 8
noncomputable def roomN (P : List Tk) (k : Nat) : Nat := ((P.take k).map logN).foldl max 0
theorem roomN_zero (P : List Tk) : roomN P 0 = 0 := rfl
theorem roomN_succ {P : List Tk} {k : Nat} {t : Tk} (h : P[k]? = some t) : roomN P (k + 1) = max (roomN P k) (logN t) := by
  unfold roomN
  rw [List.take_add_one, h]
  simp [List.foldl_append]
theorem roomN_le (P : List Tk) : ∀ k, roomN P k ≤ 8
  | 0 => by rw [roomN_zero]; omega
  | k + 1 => by
    cases h : P[k]? with
    | none =>
      have : roomN P (k + 1) = roomN P k := by unfold roomN; rw [List.take_add_one, h]; simp
      rw [this]; exact roomN_le P k
    | some t =>
      rw [roomN_succ h]
      have := roomN_le P k
      have := logN_le t
      omega
theorem roomN_ge {P : List Tk} : ∀ {k i : Nat} {t : Tk}, P[i]? = some t → i < k → logN t ≤ roomN P k
  | 0, _, _, _, h => by omega
  | k + 1, i, t, ht, h => by
    cases hk : P[k]? with
    | none =>
      have h1 := (List.getElem?_eq_some_iff.1 ht).1
      have h2 := List.getElem?_eq_none_iff.1 hk
      have h3 : roomN P (k + 1) = roomN P k := by unfold roomN; rw [List.take_add_one, hk]; simp
      rw [h3]; exact roomN_ge (k := k) ht (by omega)
    | some u =>
      rw [roomN_succ hk]
      by_cases e : i = k
      · subst e; rw [hk] at ht; cases ht; omega
      · have := roomN_ge (k := k) ht (by omega); omega
/-- What LogRoom must give. -/
def RoomIs (P : List Tk) (X : Int) : Prop := (IsPrg P ∧ X = roomN P P.length) ∨ (¬ IsPrg P ∧ X = -1)
theorem room_ex (P : List Tk) : ∃ X, RoomIs P X := by
  rcases Classical.em (IsPrg P) with h | h
  · exact ⟨_, .inl ⟨h, rfl⟩⟩
  · exact ⟨_, .inr ⟨h, rfl⟩⟩
theorem RoomIs.yes {P : List Tk} {X : Int} (h : RoomIs P X) (hp : IsPrg P) : X = roomN P P.length := by
  rcases h with ⟨_, h⟩ | ⟨h, _⟩
  · exact h
  · exact absurd hp h
theorem RoomIs.no {P : List Tk} {X : Int} (h : RoomIs P X) (hp : ¬ IsPrg P) : X = -1 := by
  rcases h with ⟨h, _⟩ | ⟨_, h⟩
  · exact absurd h hp
  · exact h
end Go.Proofs.YtcmhiadaebpgmaaGreatDoor.sets

/- Chapter 14, plain mathematics: what TraceOf must give; all writes of a trace together do what the task means. -/
namespace Go.Proofs.YtcmhiadaebpgmaaGreatDoor.trc
open Go Go.Proofs.YtcmhiadaebpgmaaGreatDoor.stm Go.Proofs.YtcmhiadaebpgmaaGreatDoor.blk Go.Proofs.YtcmhiadaebpgmaaGreatDoor.expr Go.Proofs.YtcmhiadaebpgmaaGreatDoor.sets Go.Proofs.YtcmhiadaebpgmaaGreatDoor.val Go.Proofs.YtcmhiadaebpgmaaGreatDoor.prg Go.Proofs.YtcmhiadaebpgmaaGreatDoor.exe Go.Proofs.YtcmhiadaebpgmaaGreatDoor.wrt Go.Proofs.YtcmhiadaebpgmaaGreatDoor.ctl Go.Proofs.YtcmhiadaebpgmaaGreatDoor.mem

/-- The arguments of TraceOf are valid. -/
def TrOk (P : List Tk) (Mem R : List Int) (z : Int) : Prop := MemIs P Mem ∧ wC (Mem.getD 8 0) = 0 ∧ (0 ≤ z ∧ z ≤ 1000000) ∧ allV R = true
/-- The execution of the current task with its steps. -/
noncomputable def trRun (Mem R : List Int) (z : Int) (t : Tk) (T : Fst) : Tx := texec (liveSrc R z) (lst (logF t) 8) (wT (Mem.getD 8 0)) (wN (Mem.getD 8 0)) T ⟨⟨Mem.take 8, [], []⟩, [], []⟩
/-- The last step. -/
def endM (P : List Tk) (t : Tk) (tl : Int) (y : Tx) : List Mic := [⟨1, -1, 0⟩, wrM 8 (packV (nx (evalV y.x.V t.o t.x t.y) P.length) 0 (min 24 (tl + y.x.S.length)))]
/-- What TraceOf must give. -/
def TraceIs (P : List Tk) (Mem R : List Int) (z : Int) (r : Bool) (M : List Mic) (U : List Int) : Prop :=
  (r = false ∧ M = [] ∧ U = [] ∧ ¬ TrOk P Mem R z) ∨
    (r = true ∧ TrOk P Mem R z ∧ ∃ t T, TaskAt P (Mem.take 8) R (wT (Mem.getD 8 0)) t T ∧ M = (trRun Mem R z t T).M ++ endM P t (wN (Mem.getD 8 0)) (trRun Mem R z t T) ∧ U = (trRun Mem R z t T).x.U)
theorem mem_vars {P : List Tk} {Mem : List Int} (h : MemIs P Mem) : varsOk (Mem.take 8) = true := (varsOk_iff _).2 ⟨by rw [List.length_take, h.2.1]; rfl, fun x hx => List.all_eq_true.1 h.2.2.2.2.1 x hx⟩
theorem mem_ctl {P : List Tk} {Mem : List Int} (h : MemIs P Mem) : 0 ≤ wT (Mem.getD 8 0) ∧ wT (Mem.getD 8 0) < P.length ∧ 0 ≤ wC (Mem.getD 8 0) ∧ wC (Mem.getD 8 0) ≤ 8 ∧ 0 ≤ wN (Mem.getD 8 0) ∧ wN (Mem.getD 8 0) ≤ 24 := by
  have h1 := (ctlOk_iff _ _ _).1 h.2.2.1
  have h2 := h.2.2.2.1
  omega
theorem trOk_task {P : List Tk} {Mem R : List Int} {z : Int} (h : TrOk P Mem R z) : ∃ t T, TaskAt P (Mem.take 8) R (wT (Mem.getD 8 0)) t T := by
  have hc := mem_ctl h.1
  obtain ⟨j, hj⟩ : ∃ j : Nat, wT (Mem.getD 8 0) = j := ⟨(wT (Mem.getD 8 0)).toNat, by omega⟩
  rw [hj]
  obtain ⟨t, T, _, hT⟩ := taskAt_ex (j := j) h.1.1 (mem_vars h.1) h.2.2.2 (by omega)
  exact ⟨t, T, hT⟩
theorem trOk_dec (P : List Tk) (Mem R : List Int) (z : Int) : ∃ r : Bool, r = true ↔ TrOk P Mem R z := by
  rcases Classical.em (TrOk P Mem R z) with h | h
  · exact ⟨true, by simp [h]⟩
  · exact ⟨false, by simp [h]⟩
theorem traceIs_ex (P : List Tk) (Mem R : List Int) (z : Int) : ∃ r M U, TraceIs P Mem R z r M U := by
  rcases Classical.em (TrOk P Mem R z) with h | h
  · obtain ⟨t, T, hT⟩ := trOk_task h
    exact ⟨true, _, _, .inr ⟨rfl, h, t, T, hT, rfl, rfl⟩⟩
  · exact ⟨false, [], [], .inl ⟨rfl, rfl, rfl, h⟩⟩
theorem task_par {P : List Tk} {V Y : List Int} {i : Int} {t : Tk} {T : Fst} (h : TaskAt P V Y i t T) : IsBlk t.b ∧ Par t.b 0 t.b.length T := by
  have hb := h.blk.1
  obtain ⟨_, _, _, j, _, _, hp⟩ := h
  exact ⟨hb, hp⟩
theorem trRun_x (Mem R : List Int) (z : Int) (t : Tk) (T : Fst) : (trRun Mem R z t T).x = exec (liveSrc R z) T ⟨Mem.take 8, [], []⟩ := texec_x T _
theorem trRun_len {P : List Tk} {V Y : List Int} {i : Int} {t : Tk} {T : Fst} (h : TaskAt P V Y i t T) (Mem R : List Int) (z : Int) : (trRun Mem R z t T).M.length ≤ 15000 := by
  obtain ⟨hb, hp⟩ := task_par h
  have h1 : ((trRun Mem R z t T).M.length : Int) ≤ ((0 : Nat) : Int) + cntS T := texec_len (liveSrc R z) (lst (logF t) 8) (wT (Mem.getD 8 0)) (wN (Mem.getD 8 0)) T ⟨⟨Mem.take 8, [], []⟩, [], []⟩
  have h2 := cntS_small hb hp
  omega
theorem TraceIs.size {P : List Tk} {Mem R : List Int} {z : Int} {r : Bool} {M : List Mic} {U : List Int} (h : TraceIs P Mem R z r M U) : M.length ≤ 15002 ∧ U.length ≤ 3000 := by
  rcases h with ⟨_, rfl, rfl, _⟩ | ⟨_, _, t, T, hT, rfl, rfl⟩
  · simp
  · have h1 := trRun_len hT Mem R z
    have h2 := hT.small (liveSrc R z)
    rw [trRun_x]
    refine ⟨by simp [endM]; omega, by omega⟩
/-- The steps cost something, and not much. -/
theorem TraceIs.cost {P : List Tk} {Mem R : List Int} {z : Int} {M : List Mic} {U : List Int} (h : TraceIs P Mem R z true M U) : CostOk M ∧ M ≠ [] := by
  rcases h with ⟨e, _⟩ | ⟨_, _, t, T, hT, rfl, _⟩
  · cases e
  · obtain ⟨hb, hp⟩ := task_par hT
    refine ⟨(texec_cost T (par_allS hb hp) _ nil_cost).app ?_, by simp [endM]⟩
    intro m hm
    rcases List.mem_cons.1 hm with rfl | hm
    · decide
    · rw [List.mem_singleton.1 hm]; simp [wrM]
theorem sent_at {Mem : List Int} {tl : Nat} {S : List Int} (hl : Mem.length = 49) (h24 : tl ≤ 24) {X : List Int} (hb : ∀ j, X[25 + j]? = boxAt Mem S tl j) {e : Nat} (he : e = min 24 (tl + S.length)) : (X.drop 25).take e = ((Mem.drop 25).take tl ++ S).take 24 := by
  refine List.ext_getElem? fun j => ?_
  have hlen : ((Mem.drop 25).take tl).length = tl := by rw [List.length_take, List.length_drop, hl]; omega
  by_cases hj : j < e
  · rw [List.getElem?_take_of_lt hj, List.getElem?_drop, hb j, List.getElem?_take_of_lt (by omega)]
    unfold boxAt
    by_cases hc : tl ≤ j
    · rw [if_pos ⟨hc, by omega, by omega⟩, List.getElem?_append_right (by omega), hlen]
    · rw [if_neg (by omega), List.getElem?_append_left (by omega), List.getElem?_take_of_lt (by omega), List.getElem?_drop]
  · rw [List.getElem?_eq_none (by rw [List.length_take]; omega), List.getElem?_eq_none (by rw [List.length_take, List.length_append, hlen]; omega)]
/-- All writes of a trace together do what the task means. -/
theorem trace_does {P : List Tk} {Mem R U : List Int} {z : Int} {M : List Mic} (h : TraceIs P Mem R z true M U) {r : Bool} {E : Eff} (hE : EffIs P (Mem.take 8) U (wT (Mem.getD 8 0)) r E) :
    r = true ∧ E.U = U.length ∧ (putAll Mem (wrs M)).length = 49 ∧ (putAll Mem (wrs M)).take 8 = E.V ∧
      (wOk ((putAll Mem (wrs M)).getD 8 0) = true ∧ wT ((putAll Mem (wrs M)).getD 8 0) = E.N ∧ wC ((putAll Mem (wrs M)).getD 8 0) = 0 ∧ wN ((putAll Mem (wrs M)).getD 8 0) = min 24 (wN (Mem.getD 8 0) + E.S.length)) ∧
      sentV (putAll Mem (wrs M)) = (sentV Mem ++ E.S).take 24 := by
  rcases h with ⟨e, _⟩ | ⟨_, hok, t, T, hT, rfl, rfl⟩
  · cases e
  obtain ⟨hb, hp⟩ := task_par hT
  have hc := mem_ctl hok.1
  obtain ⟨tl, htl⟩ : ∃ tl : Nat, wN (Mem.getD 8 0) = tl := ⟨(wN (Mem.getD 8 0)).toNat, by omega⟩
  obtain ⟨y, hy⟩ : ∃ y, trRun Mem R z t T = y := ⟨_, rfl⟩
  have hyx : y.x = exec (liveSrc R z) T ⟨Mem.take 8, [], []⟩ := by rw [← hy]; exact trRun_x ..
  have hg := hT.good (liveSrc_val R z)
  rw [← hyx] at hg
  have hT2 : TaskAt P (Mem.take 8) y.x.U (wT (Mem.getD 8 0)) t T := ⟨hT.1, hT.2.1, (allV_iff _).2 hg.2.2, hT.2.2.2⟩
  have hsrc : exec (listSrc y.x.U) T ⟨Mem.take 8, [], []⟩ = y.x := by
    rw [hyx]; exact exec_src T _ (List.prefix_refl _)
  rw [hy] at hE ⊢
  obtain ⟨rfl, rfl⟩ : r = true ∧ E = effOf P t y.x := by
    rcases hE with ⟨_, _, h⟩ | ⟨h1, t', T', h, h2⟩
    · exact (hT2.not h).elim
    · obtain ⟨rfl, rfl⟩ := hT2.unique h
      exact ⟨h1, by rw [h2, hsrc]⟩
  have hinv : MemInv (lst (logF t) 8) Mem tl y := by
    rw [← hy]
    unfold trRun
    rw [htl]
    refine texec_mem (lst_vrs _) T (par_allS hb hp) _ ⟨⟨List.nodup_nil, fun k hk => by cases hk⟩, hok.1.2.1, rfl, fun j => (boxAt_nil _ _ _).symm⟩
  obtain ⟨_, i2, i3, i4⟩ := hinv
  have hw : putAll Mem (wrs (y.M ++ endM P t (wN (Mem.getD 8 0)) y)) = put1 (putAll Mem (wrs y.M)) ⟨8, packV (nx (evalV y.x.V t.o t.x t.y) P.length) 0 (min 24 (wN (Mem.getD 8 0) + y.x.S.length))⟩ := by
    rw [wrs_app, putAll_app]
    rfl
  rw [hw]
  obtain ⟨c, hcv⟩ : ∃ c, packV (nx (evalV y.x.V t.o t.x t.y) P.length) 0 (min 24 (wN (Mem.getD 8 0) + y.x.S.length)) = c := ⟨_, rfl⟩
  rw [hcv]
  have hm := put_mid i2 (p := 8) (v := c) (by omega) (by omega)
  have hP := hT.1.1
  have hP6 := hT.1.2.1
  have hnx := nx_range (v := evalV y.x.V t.o t.x t.y) (n := P.length) (by omega)
  have hco : ctlOk (nx (evalV y.x.V t.o t.x t.y) P.length) 0 (min 24 (wN (Mem.getD 8 0) + y.x.S.length)) = true := (ctlOk_iff _ _ _).2 (by omega)
  have hpp := parts_pack hco
  rw [hcv] at hpp
  have h8 : (put1 (putAll Mem (wrs y.M)) ⟨8, c⟩).getD 8 0 = c := by
    rw [put1_in (k := 8) rfl (by omega), List.getD_eq_getElem?_getD, List.getElem?_set_self (by omega)]
    rfl
  have hwok : wOk c = true := by unfold wOk; rw [hpp.1, hpp.2.1, hpp.2.2]; exact hco
  refine ⟨rfl, rfl, by rw [put1_len, i2], by rw [hm.1, i3]; rfl, ⟨by rw [h8]; exact hwok, by rw [h8]; exact hpp.1, by rw [h8]; exact hpp.2.1, by rw [h8]; exact hpp.2.2⟩, ?_⟩
  unfold sentV
  rw [h8, if_pos hwok, if_pos hok.1.2.2.1, hpp.2.2, htl, show ((tl : Int)).toNat = tl by omega]
  exact sent_at (S := y.x.S) hok.1.2.1 (by omega) (fun j => by rw [hm.2 j, i4 j]) (by omega)
end Go.Proofs.YtcmhiadaebpgmaaGreatDoor.trc

/- The struct Write as plain data, and rows of it: the law's own copy, size, comparison, marks of such a value and of such a row; what a law's argument of these types is. -/
namespace Go.Proofs.YtcmhiadaebpgmaaGreatDoor.wrt
open Go Go.ChangeShapes Go.WideShapes Go.ChangeAt Go.RowKit Go.Joins Go.Deep Go.Proofs.YtcmhiadaebpgmaaGreatDoor.row Go.Proofs.YtcmhiadaebpgmaaGreatDoor.val Go.Proofs.YtcmhiadaebpgmaaGreatDoor.expr Go.Proofs.YtcmhiadaebpgmaaGreatDoor.grow

/-- The cells of one, its value, the cells of a list of them. -/
def writeC (s : Wt) : List Value := [.int .i64 s.p, .int .i64 s.v]
theorem writeC_len (s : Wt) : (writeC s).length = 2 := rfl
abbrev writeV (s : Wt) : Value := .agg #[.int .i64 s.p, .int .i64 s.v]
abbrev writesC (L : List Wt) : List Value := gcs writeC L
theorem writesC_len (L : List Wt) : (writesC L).length = L.length * 2 := gcs_len writeC_len L
/-- The slice reads as this list. -/
abbrev WriteRow (w : World) (a : Option Addr) (n : Nat) (L : List Wt) : Prop := GRow writeC 2 w a n L
/-- The call returns this value; nothing that was there is written. -/
def BelWrite (w : World) (s : Wt) (e : Ending) (w' : World) : Prop := e = .returned (writeV s) ∧ Below w.heap.size w w'
theorem drew_below {w w' : World} (h : Below w.drew.heap.size w.drew w') : Below w.heap.size w w' := (Below.drew (Below.refl _ w)).trans h
/-- A copy of the row in new memory. -/
def MadeWrites (w : World) (n : Nat) (L : List Wt) (e : Ending) (w' : World) : Prop :=
  e = .returned (.slice (some ⟨w.heap.size, 0, none⟩) n n) ∧ Box w.heap.size (writesC L).toArray 74 w' ∧ Below w.heap.size w w'
theorem zeros_write : ∀ i, i < (Value.agg #[.int .i64 0, .int .i64 0]).cells.size → (Value.agg #[.int .i64 0, .int .i64 0]).cells[i]! = .int .i64 0 := by
  intro i hi
  have : i < 2 := hi
  match i, this with
  | 0, _ => rfl
  | 1, _ => rfl
theorem infoWrite : (Tryz.prog.info? 74).map (fun i => (i.zero, i.size, i.bytes)) = some (some (.agg #[.int .i64 0, .int .i64 0]), 2, 16) := by kernel_rfl
theorem held2o {w w' : World} {g o : Nat} {x0 x1 : Value} (hb : Below w.heap.size w w') (hg : g < w.heap.size)
    (h : w.cell? ⟨g, o, none⟩ = some (x0) ∧ w.cell? ⟨g, o + 1, none⟩ = some (x1)) :
    w'.cell? ⟨g, o, none⟩ = some (x0) ∧ w'.cell? ⟨g, o + 1, none⟩ = some (x1) :=
  ⟨(hb.cell (p := ⟨g, o, none⟩) hg).trans h.1, (hb.cell (p := ⟨g, o + 1, none⟩) hg).trans h.2⟩
/-- The cells of one that lies in a row. -/
theorem range2 {w : World} {g o : Nat} {s : Wt} (h : w.rangeAt g o (writeC s)) : w.cell? ⟨g, o, none⟩ = some (.int .i64 s.p) ∧ w.cell? ⟨g, o + 1, none⟩ = some (.int .i64 s.v) :=
  ⟨h 0 _ rfl, h 1 _ rfl⟩
theorem nums_next {cs : Array Value} {k K : Int} {q : Nat} (h : Nums cs k (q * 2)) (hs : q * 2 + 2 ≤ cs.size) (hK : K = k + 2 * q) :
    Nums (setAll cs (q * 2) [.int .i64 K, .int .i64 (K + 1)]) k ((q + 1) * 2) := by
  intro j hj
  by_cases hlt : j < q * 2
  · rw [setAll_out _ _ _ _ (by left; exact hlt)]; exact h j hlt
  · obtain ⟨i, rfl⟩ : ∃ i, j = q * 2 + i := ⟨j - q * 2, by omega⟩
    rw [setAll_in _ _ _ i (by simp; omega) (by simp; omega)]
    have hi : i < 2 := by omega
    have : i = 0 ∨ i = 1 := by omega
    rcases this with rfl | rfl <;> simp <;> omega
end Go.Proofs.YtcmhiadaebpgmaaGreatDoor.wrt
namespace Go.Proofs.YtcmhiadaebpgmaaGreatDoor.opn
open Go.ChangeShapes Go.WideShapes Go.ChangeAt Go.RowKit Go.Joins Go.Deep Go.Proofs.YtcmhiadaebpgmaaGreatDoor.wrt Go.Proofs.YtcmhiadaebpgmaaGreatDoor.grow

end Go.Proofs.YtcmhiadaebpgmaaGreatDoor.opn

/- A trace as a value, and in new memory; what the program's TraceCost, WritesOf and CountSteps are to give: the shapes of their contracts. -/
namespace Go.Proofs.YtcmhiadaebpgmaaGreatDoor.trc
open Go Go.ChangeShapes Go.WideShapes Go.ChangeAt Go.RowKit Go.Proofs.YtcmhiadaebpgmaaGreatDoor.row Go.Proofs.YtcmhiadaebpgmaaGreatDoor.val Go.Proofs.YtcmhiadaebpgmaaGreatDoor.expr Go.Proofs.YtcmhiadaebpgmaaGreatDoor.grow Go.Proofs.YtcmhiadaebpgmaaGreatDoor.wrt

abbrev trV (a1 : Option Addr) (n1 c1 : Nat) (a2 : Option Addr) (n2 c2 : Nat) : Value := .agg #[.slice a1 n1 c1, .slice a2 n2 c2]
/-- The trace in new memory. -/
def TrMem (B : Nat) (a1 : Option Addr) (n1 c1 : Nat) (a2 : Option Addr) (n2 c2 : Nat) (M : List Mic) (U : List Int) (w' : World) : Prop :=
  w'.ownsRow B 72 3 (.slice a1 n1 c1) n1 (microsC M) ∧ w'.ownsRow B 3 1 (.slice a2 n2 c2) n2 (ivs U) ∧ ((Value.slice a1 n1 c1).ownBlock = none ∨ (Value.slice a1 n1 c1).ownBlock ≠ (Value.slice a2 n2 c2).ownBlock)
def NewTr (w : World) (M : List Mic) (U : List Int) (e : Ending) (w' : World) : Prop :=
  ∃ a1 n1 c1 a2 n2 c2, e = .returned (trV a1 n1 c1 a2 n2 c2) ∧ TrMem w.heap.size a1 n1 c1 a2 n2 c2 M U w' ∧ Below w.heap.size w w'
def NewTrB (w : World) (r : Bool) (M : List Mic) (U : List Int) (e : Ending) (w' : World) : Prop :=
  ∃ a1 n1 c1 a2 n2 c2, e = .returned (.tuple #[trV a1 n1 c1 a2 n2 c2, .bool r]) ∧ TrMem w.heap.size a1 n1 c1 a2 n2 c2 M U w' ∧ Below w.heap.size w w'
/-- The trace that came in. -/
def TrRow (w : World) (a1 : Option Addr) (n1 : Nat) (a2 : Option Addr) (n2 : Nat) (M : List Mic) (U : List Int) : Prop := MicroRow w a1 n1 M ∧ Row w a2 n2 U ∧ (n1 : Int) ≤ 1048576 ∧ (n2 : Int) ≤ 1048576
theorem TrRow.below {w w' : World} {a1 : Option Addr} {n1 : Nat} {a2 : Option Addr} {n2 : Nat} {M : List Mic} {U : List Int} (h : TrRow w a1 n1 a2 n2 M U) (hb : Below w.heap.size w w') : TrRow w' a1 n1 a2 n2 M U := ⟨h.1.below hb, h.2.1.below hb, h.2.2⟩
/-- A row of writes in new memory. -/
def NewWts (w : World) (L : List Wt) (e : Ending) (w' : World) : Prop :=
  ∃ a n c, e = .returned (.slice a n c) ∧ w'.ownsRow w.heap.size 74 2 (.slice a n c) n (writesC L) ∧ Below w.heap.size w w'
/-- Every cost is an int. -/
abbrev i64r (x : Int) : Prop := -9223372036854775808 ≤ x ∧ x ≤ 9223372036854775807
def MicOk (M : List Mic) : Prop := ∀ m ∈ M, i64r m.c
abbrev zero2T : Array Value := #[.slice none 0 0, .slice none 0 0]
abbrev TcC : Prop := ∀ (w : World) (a1 : Option Addr) (n1 c1 : Nat) (a2 : Option Addr) (n2 c2 : Nat) (M : List Mic) (U : List Int) (_ : n1 ≤ c1) (_ : TrRow w a1 n1 a2 n2 M U) (_ : MicOk M) (q : Int) (_ : costW (csts M) = q),
    Calls Tryz.prog 21 #[trV a1 n1 c1 a2 n2 c2] w (BelI w q)
abbrev WoC : Prop := ∀ (w : World) (a1 : Option Addr) (n1 c1 : Nat) (a2 : Option Addr) (n2 c2 : Nat) (M : List Mic) (U : List Int) (_ : n1 ≤ c1) (_ : TrRow w a1 n1 a2 n2 M U) (_ : MicOk M) (L : List Wt) (_ : wrs M = L),
    Calls Tryz.prog 13 #[trV a1 n1 c1 a2 n2 c2] w (NewWts w L)
abbrev CsC : Prop := ∀ (w : World) (a1 : Option Addr) (n1 c1 : Nat) (a2 : Option Addr) (n2 c2 : Nat) (M : List Mic) (U : List Int) (_ : n1 ≤ c1) (_ : TrRow w a1 n1 a2 n2 M U) (_ : MicOk M) (e : Int) (_ : i64r e) (q : Nat) (_ : cntE (csts M) e = q),
    Calls Tryz.prog 20 #[trV a1 n1 c1 a2 n2 c2, .int .i64 e] w (BelI w q)
end Go.Proofs.YtcmhiadaebpgmaaGreatDoor.trc
