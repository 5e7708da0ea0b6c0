/- Several texts in one: EvalC PrgI LogA. -/
import Derived.Test.YtodlbbojjnkneaaGHub20
import Derived.Deep.QuietTactic
import Derived.BigQuiet
import Derived.Test.YtodlbbojjnkneaaGHub21
import Derived.Test.YtodlbbojjnkneaaGHub28
import Derived.Test.YtodlbbojjnkneaaGHub22

/- Chapter 3's EvalExpr of the program: the plain function 'evalV'; nothing that was there is written. -/
namespace Go.Proofs.Ytodlbbojjnkneaa.expr
open Go.ChangeShapes Go.WideShapes Go.ChangeAt Go.RowKit Go.Proofs.Ytodlbbojjnkneaa.row Go.Proofs.Ytodlbbojjnkneaa.val

theorem retq {P : Program} {f : FuncId} {args : Array Value} {w : World} {x : Int} (h : Calls P f args w (Ret w x)) : Calls P f args w fun e w' => e = .returned (.int .i64 x) ∧ w' = w := h.mono fun _ _ ⟨a, b⟩ => ⟨a, b.symm⟩
end Go.Proofs.Ytodlbbojjnkneaa.expr

/- Chapter 6's program: taskOk, ProgramOk, NextTask: what the plain relations say; nothing that was there is written. -/
namespace Go.Proofs.Ytodlbbojjnkneaa.prg
open Go Go.ChangeShapes Go.WideShapes Go.ChangeAt Go.RowKit Go.Proofs.Ytodlbbojjnkneaa.row Go.Proofs.Ytodlbbojjnkneaa.val Go.Proofs.Ytodlbbojjnkneaa.expr Go.Proofs.Ytodlbbojjnkneaa.stm Go.Proofs.Ytodlbbojjnkneaa.blk

set_option maxHeartbeats 2000000 in
set_option maxRecDepth 100000 in
theorem impl_taskok (ab : Option Addr) (nb cb : Nat) (t : Tk) (hnb : (nb : Int) ≤ 1048576) (w : World) (h : StRow w ab nb t.b) (r : Bool) (hr : r = true ↔ (IsBlk t.b ∧ exprOk t.o t.x t.y = true)) :
    Calls Try.prog 23 #[tkV ab nb cb t] w (BelB w r) := by
  obtain ⟨B, o, x, y⟩ := t
  obtain ⟨W, hW⟩ : ∃ W, W = w.alloc (.cells #[.slice ab nb cb, .int .i64 o, .int .i64 x, .int .i64 y] 28) := ⟨_, rfl⟩
  have hbx : Box w.heap.size #[.slice ab nb cb, .int .i64 o, .int .i64 x, .int .i64 y] 28 W := by rw [hW]; exact Box.new _ _ _
  have hBW : Below w.heap.size w W := by rw [hW]; exact below_new _ _
  have H := Lib.hid (And.intro hBW (h.below hBW))
  have HX := Lib.hid hbx
  have HW := Lib.hid hW.symm
  have c0 : W.cell? ⟨w.heap.size, 0, none⟩ = some (.slice ab nb cb) := hbx.cell 0
  obtain ⟨rb, hrb⟩ := blk_dec B
  have HRB := Lib.hid hrb
  clear h hbx hBW hW
  cases rb
  · have hrf : r = false := by rw [← Bool.not_eq_true]; intro e; have := hrb.2 (hr.1 e).1; cases this
    clear hrb hr
    subst hrf
    go_enter Try.func23, Try.ntmps23
    go_wp2_with (go_at_call 39; rw [HW.out]; (with_reducible refine (impl_blockok ab nb cb B hnb _ H.out.2 false HRB.out).mono ?_); rintro e w2 ⟨rfl, hb2⟩)
    go_ret
    exact ⟨rfl, below_then H.out.1 hb2⟩
  · have hre : exprOk o x y = r := by
      have h1 := hrb.1 rfl
      cases r
      · rw [← Bool.not_eq_true]; intro e; have := hr.2 ⟨h1, e⟩; cases this
      · exact (hr.1 rfl).2
    have HRE := Lib.hid hre
    clear hrb hr hre
    go_enter Try.func23, Try.ntmps23
    go_wp2_with (go_at_call 39; rw [HW.out]; (with_reducible refine (impl_blockok ab nb cb B hnb _ H.out.2 true HRB.out).mono ?_); rintro e w2 ⟨rfl, hb2⟩; refine Hid.out ?_)
    have HX2 := Lib.hid (HX.out.below hb2)
    have d1 : w2.cell? ⟨w.heap.size, 1, none⟩ = some (.int .i64 o) := HX2.out.cell 1
    have d2 : w2.cell? ⟨w.heap.size, 2, none⟩ = some (.int .i64 x) := HX2.out.cell 2
    have d3 : w2.cell? ⟨w.heap.size, 3, none⟩ = some (.int .i64 y) := HX2.out.cell 3
    have HB2 := Lib.hid (below_then H.out.1 hb2)
    clear hb2
    refine Lib.hid ?_
    go_wp2_with (go_at_call 40; (with_reducible refine (impl_exprok o x y r HRE.out _).mono ?_); rintro e w3 ⟨rfl, hb3⟩)
    go_ret
    exact ⟨rfl, below_then HB2.out hb3⟩
theorem tsk_dec (t : Tk) : ∃ r : Bool, r = true ↔ (IsBlk t.b ∧ exprOk t.o t.x t.y = true) := by
  rcases Classical.em (IsBlk t.b ∧ exprOk t.o t.x t.y = true) with h | h
  · exact ⟨true, fun _ => h, fun _ => rfl⟩
  · exact ⟨false, fun e => (by cases e), fun e => absurd e h⟩
theorem nx_twice {v : Int} {n : Nat} (hn : 0 < n) : (v.tmod n + n).tmod n = nx v n := by
  have h := tmod_bds (v := v) hn
  unfold nx
  split
  · rw [Int.tmod_eq_of_lt (by omega) (by omega)]
  · rw [Int.tmod_eq_emod_of_nonneg (by omega), Int.add_emod_right, Int.emod_eq_of_lt (by omega) (by omega)]
end Go.Proofs.Ytodlbbojjnkneaa.prg

/- What must be logged: plain mathematics. -/
namespace Go.Proofs.Ytodlbbojjnkneaa.sets
open Go Go.Proofs.Ytodlbbojjnkneaa.stm Go.Proofs.Ytodlbbojjnkneaa.blk Go.Proofs.Ytodlbbojjnkneaa.expr Go.Proofs.Ytodlbbojjnkneaa.prg

/-- The variable must be logged. -/
def LogP (t : Tk) (v : Nat) : Prop := (IsBlk t.b ∧ exprOk t.o t.x t.y = true) ∧ MayTo t.b t.b.length v ∧ (FirstP t v ∨ ¬ WAt t.b t.b.length v)
theorem is_ex (p : Nat → Prop) : ∃ f, Is f p := by
  classical exact ⟨fun v => decide (p v), fun v _ => decide_eq_true_iff⟩
theorem lst_filter {f g : Nat → Bool} {p : Int → Bool} : ∀ k, (∀ v : Nat, v < k → g v = (f v && p v)) → (lst f k).filter p = lst g k
  | 0, _ => rfl
  | k + 1, h => by
    have ih := lst_filter (f := f) (g := g) (p := p) k (fun v hv => h v (by omega))
    have hk := h k (by omega)
    cases hf : f k
    · rw [hf, Bool.false_and] at hk
      rw [lst_no hf, lst_no hk, ih]
    · rw [hf, Bool.true_and] at hk
      rw [lst_yes hf, List.filter_append, ih]
      cases hp : p k
      · rw [hp] at hk
        rw [lst_no hk]; simp [hp]
      · rw [hp] at hk
        rw [lst_yes hk]; simp [hp]
/-- The model's choice. -/
theorem log_model {t : Tk} (ht : IsBlk t.b ∧ exprOk t.o t.x t.y = true) {fm fu ff f : Nat → Bool} (hm : Is fm (fun v => IsBlk t.b ∧ MayTo t.b t.b.length v)) (hu : Is fu (fun v => IsBlk t.b ∧ WAt t.b t.b.length v)) (hf : Is ff (FirstP t)) (h : Is f (LogP t)) :
    (lst fm 8).filter (fun x => decide (x ∈ lst ff 8) || !decide (x ∈ lst fu 8)) = lst f 8 := by
  refine lst_filter 8 (fun v hv => ?_)
  have h1 := hm v hv
  have h2 := hu v hv
  have h3 := hf v hv
  have h4 := h v hv
  have e1 : decide ((v : Int) ∈ lst ff 8) = ff v := by rw [Bool.eq_iff_iff, decide_eq_true_eq, lst_mem]; exact ⟨fun h => h.2, fun h => ⟨hv, h⟩⟩
  have e2 : decide ((v : Int) ∈ lst fu 8) = fu v := by rw [Bool.eq_iff_iff, decide_eq_true_eq, lst_mem]; exact ⟨fun h => h.2, fun h => ⟨hv, h⟩⟩
  rw [e1, e2, Bool.eq_iff_iff, h4]
  simp only [Bool.and_eq_true, Bool.or_eq_true, Bool.not_eq_true', h1, h3]
  have h2n : fu v = false ↔ ¬ WAt t.b t.b.length v := by
    rw [← Bool.not_eq_true, h2]
    exact ⟨fun h e => h ⟨ht.1, e⟩, fun h e => h e.2⟩
  rw [h2n]
  unfold LogP
  exact ⟨fun h => ⟨⟨ht.1, h.2.1⟩, h.2.2⟩, fun h => ⟨ht, h.1.2, h.2⟩⟩
/-- The program's choice: twice without. -/
theorem log_prog {t : Tk} (ht : IsBlk t.b ∧ exprOk t.o t.x t.y = true) {fm fu ff f : Nat → Bool} (hm : Is fm (fun v => IsBlk t.b ∧ MayTo t.b t.b.length v)) (hu : Is fu (fun v => IsBlk t.b ∧ WAt t.b t.b.length v)) (hf : Is ff (FirstP t)) (h : Is f (LogP t)) :
    (lst fm 8).filter (fun x => !decide (x ∈ (lst fu 8).filter (fun y => !decide (y ∈ lst ff 8)))) = lst f 8 := by
  rw [← log_model ht hm hu hf h]
  congr 1
  funext x
  simp only [List.mem_filter]
  rw [Bool.eq_iff_iff]
  simp
  by_cases h1 : x ∈ lst fu 8 <;> by_cases h2 : x ∈ lst ff 8 <;> simp [h1, h2]
theorem log_none {t : Tk} (ht : ¬ (IsBlk t.b ∧ exprOk t.o t.x t.y = true)) {f : Nat → Bool} (h : Is f (LogP t)) : lst f 8 = [] := by
  rw [lst_congr (g := fun _ => false) (fun v hv => by
    cases h9 : f v
    · rfl
    · exact absurd ((h v hv).1 h9).1 ht)]
  exact lst_nil (fun _ => rfl) 8
noncomputable def logF (t : Tk) : Nat → Bool := fun v => @decide (LogP t v) (Classical.propDecidable _)
theorem logF_is (t : Tk) : Is (logF t) (LogP t) := fun v _ => by unfold logF; exact @decide_eq_true_iff _ (Classical.propDecidable _)
/-- How many variables a task logs. -/
noncomputable def logN (t : Tk) : Nat := (lst (logF t) 8).length
theorem logN_le (t : Tk) : logN t ≤ 8 := lst_len _ 8
noncomputable def roomN (P : List Tk) (k : Nat) : Nat := ((P.take k).map logN).foldl max 0
theorem roomN_zero (P : List Tk) : roomN P 0 = 0 := rfl
theorem roomN_succ {P : List Tk} {k : Nat} {t : Tk} (h : P[k]? = some t) : roomN P (k + 1) = max (roomN P k) (logN t) := by
  unfold roomN
  rw [List.take_add_one, h]
  simp [List.foldl_append]
theorem roomN_le (P : List Tk) : ∀ k, roomN P k ≤ 8
  | 0 => by rw [roomN_zero]; omega
  | k + 1 => by
    cases h : P[k]? with
    | none =>
      have : roomN P (k + 1) = roomN P k := by unfold roomN; rw [List.take_add_one, h]; simp
      rw [this]; exact roomN_le P k
    | some t =>
      rw [roomN_succ h]
      have := roomN_le P k
      have := logN_le t
      omega
theorem roomN_ge {P : List Tk} : ∀ {k i : Nat} {t : Tk}, P[i]? = some t → i < k → logN t ≤ roomN P k
  | 0, _, _, _, h => by omega
  | k + 1, i, t, ht, h => by
    cases hk : P[k]? with
    | none =>
      have h1 := (List.getElem?_eq_some_iff.1 ht).1
      have h2 := List.getElem?_eq_none_iff.1 hk
      have h3 : roomN P (k + 1) = roomN P k := by unfold roomN; rw [List.take_add_one, hk]; simp
      rw [h3]; exact roomN_ge (k := k) ht (by omega)
    | some u =>
      rw [roomN_succ hk]
      by_cases e : i = k
      · subst e; rw [hk] at ht; cases ht; omega
      · have := roomN_ge (k := k) ht (by omega); omega
/-- What LogRoom must give. -/
def RoomIs (P : List Tk) (X : Int) : Prop := (IsPrg P ∧ X = roomN P P.length) ∨ (¬ IsPrg P ∧ X = -1)
theorem room_ex (P : List Tk) : ∃ X, RoomIs P X := by
  rcases Classical.em (IsPrg P) with h | h
  · exact ⟨_, .inl ⟨h, rfl⟩⟩
  · exact ⟨_, .inr ⟨h, rfl⟩⟩
theorem RoomIs.yes {P : List Tk} {X : Int} (h : RoomIs P X) (hp : IsPrg P) : X = roomN P P.length := by
  rcases h with ⟨_, h⟩ | ⟨h, _⟩
  · exact h
  · exact absurd hp h
theorem RoomIs.no {P : List Tk} {X : Int} (h : RoomIs P X) (hp : ¬ IsPrg P) : X = -1 := by
  rcases h with ⟨h, _⟩ | ⟨_, h⟩
  · exact absurd h hp
  · exact h
end Go.Proofs.Ytodlbbojjnkneaa.sets
