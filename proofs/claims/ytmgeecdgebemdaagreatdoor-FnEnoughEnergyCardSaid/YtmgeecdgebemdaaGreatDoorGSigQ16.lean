/- Several texts in one: QMemO QSetB QSetC QSetD QSetE QSetF QSetG QLogA QTrcB QRecQ QRecA. -/
import Derived.Test.YtmgeecdgebemdaaGreatDoorGSigQ15
import Derived.Test.YtmgeecdgebemdaaGreatDoorGSigQ2
import Derived.Test.YtmgeecdgebemdaaGreatDoorGSigQ6
import Derived.Test.YtmgeecdgebemdaaGreatDoorGSigQ4
import Derived.Test.YtmgeecdgebemdaaGreatDoorGSigQ7
import Derived.Deep.AppendLies
import Derived.Test.YtmgeecdgebemdaaGreatDoorGSigQ1
import Derived.Test.YtmgeecdgebemdaaGreatDoorGSigQ0
import Derived.Test.YtmgeecdgebemdaaGreatDoorGSigQ5

/- Chapter 9's MemOk: a valid program, 49 words, a control word whose task the program has, values, and good entries of the log, of the model and of the program; nothing that was there is written. -/
namespace Go.Proofs.YtmgeecdgebemdaaGreatDoor.mem
open Go.ChangeShapes Go.WideShapes Go.ChangeAt Go.RowKit Go.Proofs.YtmgeecdgebemdaaGreatDoor.row Go.Proofs.YtmgeecdgebemdaaGreatDoor.val Go.Proofs.YtmgeecdgebemdaaGreatDoor.expr Go.Proofs.YtmgeecdgebemdaaGreatDoor.stm Go.Proofs.YtmgeecdgebemdaaGreatDoor.blk Go.Proofs.YtmgeecdgebemdaaGreatDoor.prg Go.Proofs.YtmgeecdgebemdaaGreatDoor.ctl
theorem wparts {x : Int} (h : wOk x = true) : ∃ t c n : Nat, t ≤ 5 ∧ c ≤ 8 ∧ n ≤ 24 ∧ (unT x = t ∧ unC x = c ∧ unN x = n) ∧ wT x = t ∧ wC x = c ∧ wN x = n := by
  obtain ⟨t, c, n, h1, h2, h3, e1, e2, e3⟩ := un_yes h
  refine ⟨t, c, n, h1, h2, h3, ⟨e1, e2, e3⟩, ?_, ?_, ?_⟩
  · rw [← e1]; simp [unT, h]
  · rw [← e2]; simp [unC, h]
  · rw [← e3]; simp [unN, h]
/-- A memory of the program. -/
def MemIs (P : List Tk) (L : List Int) : Prop :=
  IsPrg P ∧ L.length = 49 ∧ wOk (L.getD 8 0) = true ∧ wT (L.getD 8 0) < P.length ∧ (L.take 8).all isVal = true ∧ ((L.drop 25).take (wN (L.getD 8 0)).toNat).all isVal = true ∧ LogV L (wC (L.getD 8 0)).toNat
theorem mem_dec (P : List Tk) (L : List Int) : ∃ r : Bool, r = true ↔ MemIs P L := by
  rcases Classical.em (MemIs P L) with h | h
  · exact ⟨true, fun _ => h, fun _ => rfl⟩
  · exact ⟨false, fun e => (by cases e), fun e => absurd e h⟩
theorem not_mem {P : List Tk} {L : List Int} {r : Bool} (hr : r = true ↔ MemIs P L) (h : ¬ MemIs P L) : r = false := by
  rw [← Bool.not_eq_true]; intro e; exact h (hr.1 e)
end Go.Proofs.YtmgeecdgebemdaaGreatDoor.mem

/- Rows of eight bools as sets of variables; the model's l07List, l07Writes. -/
namespace Go.Proofs.YtmgeecdgebemdaaGreatDoor.sets
open Go Go.ChangeShapes Go.WideShapes Go.ChangeAt Go.RowKit Go.Proofs.YtmgeecdgebemdaaGreatDoor.row Go.Proofs.YtmgeecdgebemdaaGreatDoor.val Go.Proofs.YtmgeecdgebemdaaGreatDoor.stm Go.Proofs.YtmgeecdgebemdaaGreatDoor.blk Go.Proofs.YtmgeecdgebemdaaGreatDoor.expr
section
variable {g : Nat} {f : Nat → Bool} {w w' : World}
end
theorem own_slice {w : World} {base size n : Nat} {e : TypeId} {v : Value} {xs : List Value} (h : w.ownsRow base e size v n xs) : ∃ (a : Option Addr) (c : Nat), v = .slice a n c := by
  rcases h.2 with ⟨h1, h2⟩ | ⟨g, c, cur, h1, _⟩
  · exact ⟨none, 0, by rw [h1, h2]⟩
  · exact ⟨_, c, h1⟩
end Go.Proofs.YtmgeecdgebemdaaGreatDoor.sets

/- The model's MayWrite and MustWrite; nothing that was there is written. -/
namespace Go.Proofs.YtmgeecdgebemdaaGreatDoor.sets
open Go Go.ChangeShapes Go.WideShapes Go.ChangeAt Go.RowKit Go.Proofs.YtmgeecdgebemdaaGreatDoor.row Go.Proofs.YtmgeecdgebemdaaGreatDoor.val Go.Proofs.YtmgeecdgebemdaaGreatDoor.stm Go.Proofs.YtmgeecdgebemdaaGreatDoor.blk Go.Proofs.YtmgeecdgebemdaaGreatDoor.expr
theorem wr_var {s : Sm} (h : stOk s = true) (hw : wr s) : ∃ v : Nat, s.v = v ∧ v < 8 := by
  rcases hw with e | e <;> simp [stOk, e, varOk] at h <;> exact ⟨s.v.toNat, by omega, by omega⟩
theorem wr_dec (s : Sm) : ∃ r : Bool, r = true ↔ wr s := by
  by_cases h : wr s
  · exact ⟨true, fun _ => h, fun _ => rfl⟩
  · exact ⟨false, fun e => (by cases e), fun e => absurd e h⟩
/-- The set 'f' is the property 'p', among the eight variables. -/
def Is (f : Nat → Bool) (p : Nat → Prop) : Prop := ∀ v, v < 8 → (f v = true ↔ p v)
theorem Is.eq {f g : Nat → Bool} {p : Nat → Prop} (h : Is f p) (h' : Is g p) : ∀ v, v < 8 → f v = g v := fun v hv => by
  have h1 := h v hv
  have h2 := h' v hv
  cases hf : f v <;> cases hg : g v
  · rfl
  · exact absurd (h1.2 (h2.1 hg)) (by rw [hf]; simp)
  · exact absurd (h2.2 (h1.1 hf)) (by rw [hg]; simp)
  · rfl
theorem Is.put {f : Nat → Bool} {p q : Nat → Prop} {v : Nat} (h : Is f p) (hq : ∀ u, q u ↔ p u ∨ u = v) : Is (fun u => decide (u = v) || f u) q := fun u hu => by
  have h1 := h u hu
  rw [hq u]
  simp only [Bool.or_eq_true, decide_eq_true_eq]
  constructor
  · rintro (e | e)
    · exact .inr e
    · exact .inl (h1.1 e)
  · rintro (e | e)
    · exact .inr (h1.2 e)
    · exact .inl e
theorem Is.congr {f : Nat → Bool} {p q : Nat → Prop} (h : Is f p) (hq : ∀ u, q u ↔ p u) : Is f q := fun u hu => (h u hu).trans (hq u).symm
theorem wrAt_iff {B : List Sm} {k v u : Nat} {s : Sm} (hs : B[k]? = some s) (hw : wr s) (hv : s.v = v) : WrAt B k u ↔ u = v := by
  constructor
  · rintro ⟨t, ht, _, hu⟩
    rw [hs] at ht; cases ht; omega
  · rintro rfl; exact ⟨s, hs, hw, hv⟩
theorem wrAt_no {B : List Sm} {k u : Nat} {s : Sm} (hs : B[k]? = some s) (hw : ¬ wr s) : ¬ WrAt B k u := fun ⟨t, ht, h, _⟩ => by
  rw [hs] at ht; cases ht; exact hw h
theorem range_below {w w' : World} {g o : Nat} {L : List Value} (h : w.rangeAt g o L) (hb : Below w.heap.size w w') (hl : g < w.heap.size) : w'.rangeAt g o L := fun j v hj => (hb.cell (p := ⟨g, o + j, none⟩) hl).trans (h j v hj)
end Go.Proofs.YtmgeecdgebemdaaGreatDoor.sets

/- The model's MustWrite; nothing that was there is written. -/
namespace Go.Proofs.YtmgeecdgebemdaaGreatDoor.sets
open Go Go.ChangeShapes Go.WideShapes Go.ChangeAt Go.RowKit Go.Proofs.YtmgeecdgebemdaaGreatDoor.row Go.Proofs.YtmgeecdgebemdaaGreatDoor.val Go.Proofs.YtmgeecdgebemdaaGreatDoor.stm Go.Proofs.YtmgeecdgebemdaaGreatDoor.blk Go.Proofs.YtmgeecdgebemdaaGreatDoor.expr
end Go.Proofs.YtmgeecdgebemdaaGreatDoor.sets

/- The model's l07Note: what an expression reads and is not written yet. -/
namespace Go.Proofs.YtmgeecdgebemdaaGreatDoor.sets
open Go Go.ChangeShapes Go.WideShapes Go.ChangeAt Go.RowKit Go.Proofs.YtmgeecdgebemdaaGreatDoor.row Go.Proofs.YtmgeecdgebemdaaGreatDoor.val Go.Proofs.YtmgeecdgebemdaaGreatDoor.stm Go.Proofs.YtmgeecdgebemdaaGreatDoor.blk Go.Proofs.YtmgeecdgebemdaaGreatDoor.expr
theorem rd_nat {a b x : Int} (h : x ∈ rd a b 8) : ∃ v : Nat, x = v ∧ v < 8 := by
  unfold rd at h
  obtain ⟨v, hv, rfl⟩ := List.mem_map.1 h
  exact ⟨v, rfl, List.mem_range.1 (List.mem_filter.1 hv).1⟩
theorem take_mem {L : List Int} {k v : Nat} {x : Int} (h : L[k]? = some x) : (v : Int) ∈ L.take (k + 1) ↔ (v : Int) ∈ L.take k ∨ (v : Int) = x := by
  rw [List.take_add_one, h]; simp
end Go.Proofs.YtmgeecdgebemdaaGreatDoor.sets

/- The model's l07Pass: the sets are carried through a part of a block. -/
namespace Go.Proofs.YtmgeecdgebemdaaGreatDoor.sets
open Go Go.ChangeShapes Go.WideShapes Go.ChangeAt Go.RowKit Go.Proofs.YtmgeecdgebemdaaGreatDoor.row Go.Proofs.YtmgeecdgebemdaaGreatDoor.val Go.Proofs.YtmgeecdgebemdaaGreatDoor.stm Go.Proofs.YtmgeecdgebemdaaGreatDoor.blk Go.Proofs.YtmgeecdgebemdaaGreatDoor.expr
section
variable {f g f' g' n : Nat} {w w1 w2 : World}
end
theorem Is.neg {f : Nat → Bool} {p : Nat → Prop} (h : Is f p) {v : Nat} (hv : v < 8) : f v = false ↔ ¬ p v := by
  rw [← h v hv]; simp
/-- The set of what has been read first, one statement on, where the statement reads. -/
theorem Is.note {F F' W : Nat → Bool} {B : List Sm} {p : Nat} {s : Sm} (hs : B[p]? = some s) (hr : rds s) (hF : Is F (FAt B p)) (hW : Is W (WAt B p)) (hF' : Is F' (fun v => F v = true ∨ ((v : Int) ∈ rd s.a s.b 8 ∧ W v = false))) : Is F' (FAt B (p + 1)) := fun v hv => by
  refine (hF' v hv).trans ?_
  rw [fAt_succ]
  refine or_congr (hF v hv) (and_congr ⟨fun h => ⟨s, hs, hr, h⟩, fun ⟨t, ht, _, h⟩ => ?_⟩ (hW.neg hv))
  rw [hs] at ht; cases ht; exact h
theorem Is.still {F : Nat → Bool} {B : List Sm} {p : Nat} (hn : ∀ v, ¬ RdAt B p v) (hF : Is F (FAt B p)) : Is F (FAt B (p + 1)) := hF.congr (fun _ => by
  rw [fAt_succ]
  exact ⟨fun h => h.resolve_right (fun h => hn _ h.1), .inl⟩)
theorem rdAt_no {B : List Sm} {p v : Nat} {s : Sm} (hs : B[p]? = some s) (hr : ¬ rds s) : ¬ RdAt B p v := fun ⟨t, ht, h, _⟩ => by
  rw [hs] at ht; cases ht; exact hr h
theorem st_expr {s : Sm} (h : stOk s = true) (hr : rds s) : exprOk s.o s.a s.b = true := by
  rcases hr with e | e | e <;> simp [stOk, e] at h
  · exact h.2.2
  · exact h.2.2
  · exact h.2.2
theorem st_kind {s : Sm} (h : stOk s = true) : s.k = 1 ∨ s.k = 2 ∨ s.k = 3 ∨ s.k = 4 ∨ s.k = 5 ∨ s.k = 6 := by
  by_cases h1 : s.k = 1
  · exact .inl h1
  by_cases h2 : s.k = 2
  · exact .inr (.inl h2)
  by_cases h3 : s.k = 3
  · exact .inr (.inr (.inl h3))
  by_cases h4 : s.k = 4
  · exact .inr (.inr (.inr (.inl h4)))
  by_cases h5 : s.k = 5
  · exact .inr (.inr (.inr (.inr (.inl h5))))
  by_cases h6 : s.k = 6
  · exact .inr (.inr (.inr (.inr (.inr h6))))
  exact absurd h (by simp [stOk, h1, h2, h3, h4, h5, h6])
abbrev zero6 : Array Value := #[.int .i64 0, .int .i64 0, .int .i64 0, .int .i64 0, .int .i64 0, .int .i64 0]
end Go.Proofs.YtmgeecdgebemdaaGreatDoor.sets

/- The model's MayReadFirst and HasVar; nothing that was there is written. -/
namespace Go.Proofs.YtmgeecdgebemdaaGreatDoor.sets
open Go Go.ChangeShapes Go.WideShapes Go.ChangeAt Go.RowKit Go.Proofs.YtmgeecdgebemdaaGreatDoor.row Go.Proofs.YtmgeecdgebemdaaGreatDoor.val Go.Proofs.YtmgeecdgebemdaaGreatDoor.stm Go.Proofs.YtmgeecdgebemdaaGreatDoor.blk Go.Proofs.YtmgeecdgebemdaaGreatDoor.expr Go.Proofs.YtmgeecdgebemdaaGreatDoor.prg
/-- What a task can read before it is written. -/
def FirstP (t : Tk) (v : Nat) : Prop := (IsBlk t.b ∧ exprOk t.o t.x t.y = true) ∧ (FAt t.b t.b.length v ∨ ((v : Int) ∈ rd t.x t.y 8 ∧ ¬ WAt t.b t.b.length v))
end Go.Proofs.YtmgeecdgebemdaaGreatDoor.sets

/- What must be logged: plain mathematics. -/
namespace Go.Proofs.YtmgeecdgebemdaaGreatDoor.sets
open Go Go.Proofs.YtmgeecdgebemdaaGreatDoor.stm Go.Proofs.YtmgeecdgebemdaaGreatDoor.blk Go.Proofs.YtmgeecdgebemdaaGreatDoor.expr Go.Proofs.YtmgeecdgebemdaaGreatDoor.prg
/-- The variable must be logged. -/
def LogP (t : Tk) (v : Nat) : Prop := (IsBlk t.b ∧ exprOk t.o t.x t.y = true) ∧ MayTo t.b t.b.length v ∧ (FirstP t v ∨ ¬ WAt t.b t.b.length v)
theorem is_ex (p : Nat → Prop) : ∃ f, Is f p := by
  classical exact ⟨fun v => decide (p v), fun v _ => decide_eq_true_iff⟩
theorem lst_filter {f g : Nat → Bool} {p : Int → Bool} : ∀ k, (∀ v : Nat, v < k → g v = (f v && p v)) → (lst f k).filter p = lst g k
  | 0, _ => rfl
  | k + 1, h => by
    have ih := lst_filter (f := f) (g := g) (p := p) k (fun v hv => h v (by omega))
    have hk := h k (by omega)
    cases hf : f k
    · rw [hf, Bool.false_and] at hk
      rw [lst_no hf, lst_no hk, ih]
    · rw [hf, Bool.true_and] at hk
      rw [lst_yes hf, List.filter_append, ih]
      cases hp : p k
      · rw [hp] at hk
        rw [lst_no hk]; simp [hp]
      · rw [hp] at hk
        rw [lst_yes hk]; simp [hp]
/-- The model's choice. -/
theorem log_model {t : Tk} (ht : IsBlk t.b ∧ exprOk t.o t.x t.y = true) {fm fu ff f : Nat → Bool} (hm : Is fm (fun v => IsBlk t.b ∧ MayTo t.b t.b.length v)) (hu : Is fu (fun v => IsBlk t.b ∧ WAt t.b t.b.length v)) (hf : Is ff (FirstP t)) (h : Is f (LogP t)) :
    (lst fm 8).filter (fun x => decide (x ∈ lst ff 8) || !decide (x ∈ lst fu 8)) = lst f 8 := by
  refine lst_filter 8 (fun v hv => ?_)
  have h1 := hm v hv
  have h2 := hu v hv
  have h3 := hf v hv
  have h4 := h v hv
  have e1 : decide ((v : Int) ∈ lst ff 8) = ff v := by rw [Bool.eq_iff_iff, decide_eq_true_eq, lst_mem]; exact ⟨fun h => h.2, fun h => ⟨hv, h⟩⟩
  have e2 : decide ((v : Int) ∈ lst fu 8) = fu v := by rw [Bool.eq_iff_iff, decide_eq_true_eq, lst_mem]; exact ⟨fun h => h.2, fun h => ⟨hv, h⟩⟩
  rw [e1, e2, Bool.eq_iff_iff, h4]
  simp only [Bool.and_eq_true, Bool.or_eq_true, Bool.not_eq_true', h1, h3]
  have h2n : fu v = false ↔ ¬ WAt t.b t.b.length v := by
    rw [← Bool.not_eq_true, h2]
    exact ⟨fun h e => h ⟨ht.1, e⟩, fun h e => h e.2⟩
  rw [h2n]
  unfold LogP
  exact ⟨fun h => ⟨⟨ht.1, h.2.1⟩, h.2.2⟩, fun h => ⟨ht, h.1.2, h.2⟩⟩
/-- The program's choice: twice without. -/
theorem log_prog {t : Tk} (ht : IsBlk t.b ∧ exprOk t.o t.x t.y = true) {fm fu ff f : Nat → Bool} (hm : Is fm (fun v => IsBlk t.b ∧ MayTo t.b t.b.length v)) (hu : Is fu (fun v => IsBlk t.b ∧ WAt t.b t.b.length v)) (hf : Is ff (FirstP t)) (h : Is f (LogP t)) :
    (lst fm 8).filter (fun x => !decide (x ∈ (lst fu 8).filter (fun y => !decide (y ∈ lst ff 8)))) = lst f 8 := by
  rw [← log_model ht hm hu hf h]
  congr 1
  funext x
  simp only [List.mem_filter]
  rw [Bool.eq_iff_iff]
  simp
  by_cases h1 : x ∈ lst fu 8 <;> by_cases h2 : x ∈ lst ff 8 <;> simp [h1, h2]
theorem log_none {t : Tk} (ht : ¬ (IsBlk t.b ∧ exprOk t.o t.x t.y = true)) {f : Nat → Bool} (h : Is f (LogP t)) : lst f 8 = [] := by
  rw [lst_congr (g := fun _ => false) (fun v hv => by
    cases h9 : f v
    · rfl
    · exact absurd ((h v hv).1 h9).1 ht)]
  exact lst_nil (fun _ => rfl) 8
noncomputable def logF (t : Tk) : Nat → Bool := fun v => @decide (LogP t v) (Classical.propDecidable _)
theorem logF_is (t : Tk) : Is (logF t) (LogP t) := fun v _ => by unfold logF; exact @decide_eq_true_iff _ (Classical.propDecidable _)
end Go.Proofs.YtmgeecdgebemdaaGreatDoor.sets

/- Chapter 14, plain mathematics: what TraceOf must give; all writes of a trace together do what the task means. -/
namespace Go.Proofs.YtmgeecdgebemdaaGreatDoor.trc
open Go Go.Proofs.YtmgeecdgebemdaaGreatDoor.stm Go.Proofs.YtmgeecdgebemdaaGreatDoor.blk Go.Proofs.YtmgeecdgebemdaaGreatDoor.expr Go.Proofs.YtmgeecdgebemdaaGreatDoor.sets Go.Proofs.YtmgeecdgebemdaaGreatDoor.val Go.Proofs.YtmgeecdgebemdaaGreatDoor.prg Go.Proofs.YtmgeecdgebemdaaGreatDoor.exe Go.Proofs.YtmgeecdgebemdaaGreatDoor.wrt Go.Proofs.YtmgeecdgebemdaaGreatDoor.ctl Go.Proofs.YtmgeecdgebemdaaGreatDoor.mem
/-- The arguments of TraceOf are valid. -/
def TrOk (P : List Tk) (Mem R : List Int) (z : Int) : Prop := MemIs P Mem ∧ wC (Mem.getD 8 0) = 0 ∧ (0 ≤ z ∧ z ≤ 1000000) ∧ allV R = true
/-- The execution of the current task with its steps. -/
noncomputable def trRun (Mem R : List Int) (z : Int) (t : Tk) (T : Fst) : Tx := texec (liveSrc R z) (lst (logF t) 8) (wT (Mem.getD 8 0)) (wN (Mem.getD 8 0)) T ⟨⟨Mem.take 8, [], []⟩, [], []⟩
/-- The last step. -/
def endM (P : List Tk) (t : Tk) (tl : Int) (y : Tx) : List Mic := [⟨1, -1, 0⟩, wrM 8 (packV (nx (evalV y.x.V t.o t.x t.y) P.length) 0 (min 24 (tl + y.x.S.length)))]
/-- What TraceOf must give. -/
def TraceIs (P : List Tk) (Mem R : List Int) (z : Int) (r : Bool) (M : List Mic) (U : List Int) : Prop :=
  (r = false ∧ M = [] ∧ U = [] ∧ ¬ TrOk P Mem R z) ∨
    (r = true ∧ TrOk P Mem R z ∧ ∃ t T, TaskAt P (Mem.take 8) R (wT (Mem.getD 8 0)) t T ∧ M = (trRun Mem R z t T).M ++ endM P t (wN (Mem.getD 8 0)) (trRun Mem R z t T) ∧ U = (trRun Mem R z t T).x.U)
theorem mem_vars {P : List Tk} {Mem : List Int} (h : MemIs P Mem) : varsOk (Mem.take 8) = true := (varsOk_iff _).2 ⟨by rw [List.length_take, h.2.1]; rfl, fun x hx => List.all_eq_true.1 h.2.2.2.2.1 x hx⟩
theorem mem_ctl {P : List Tk} {Mem : List Int} (h : MemIs P Mem) : 0 ≤ wT (Mem.getD 8 0) ∧ wT (Mem.getD 8 0) < P.length ∧ 0 ≤ wC (Mem.getD 8 0) ∧ wC (Mem.getD 8 0) ≤ 8 ∧ 0 ≤ wN (Mem.getD 8 0) ∧ wN (Mem.getD 8 0) ≤ 24 := by
  have h1 := (ctlOk_iff _ _ _).1 h.2.2.1
  have h2 := h.2.2.2.1
  omega
theorem trOk_task {P : List Tk} {Mem R : List Int} {z : Int} (h : TrOk P Mem R z) : ∃ t T, TaskAt P (Mem.take 8) R (wT (Mem.getD 8 0)) t T := by
  have hc := mem_ctl h.1
  obtain ⟨j, hj⟩ : ∃ j : Nat, wT (Mem.getD 8 0) = j := ⟨(wT (Mem.getD 8 0)).toNat, by omega⟩
  rw [hj]
  obtain ⟨t, T, _, hT⟩ := taskAt_ex (j := j) h.1.1 (mem_vars h.1) h.2.2.2 (by omega)
  exact ⟨t, T, hT⟩
theorem trOk_dec (P : List Tk) (Mem R : List Int) (z : Int) : ∃ r : Bool, r = true ↔ TrOk P Mem R z := by
  rcases Classical.em (TrOk P Mem R z) with h | h
  · exact ⟨true, by simp [h]⟩
  · exact ⟨false, by simp [h]⟩
theorem traceIs_ex (P : List Tk) (Mem R : List Int) (z : Int) : ∃ r M U, TraceIs P Mem R z r M U := by
  rcases Classical.em (TrOk P Mem R z) with h | h
  · obtain ⟨t, T, hT⟩ := trOk_task h
    exact ⟨true, _, _, .inr ⟨rfl, h, t, T, hT, rfl, rfl⟩⟩
  · exact ⟨false, [], [], .inl ⟨rfl, rfl, rfl, h⟩⟩
theorem task_par {P : List Tk} {V Y : List Int} {i : Int} {t : Tk} {T : Fst} (h : TaskAt P V Y i t T) : IsBlk t.b ∧ Par t.b 0 t.b.length T := by
  have hb := h.blk.1
  obtain ⟨_, _, _, j, _, _, hp⟩ := h
  exact ⟨hb, hp⟩
theorem trRun_x (Mem R : List Int) (z : Int) (t : Tk) (T : Fst) : (trRun Mem R z t T).x = exec (liveSrc R z) T ⟨Mem.take 8, [], []⟩ := texec_x T _
theorem trRun_len {P : List Tk} {V Y : List Int} {i : Int} {t : Tk} {T : Fst} (h : TaskAt P V Y i t T) (Mem R : List Int) (z : Int) : (trRun Mem R z t T).M.length ≤ 15000 := by
  obtain ⟨hb, hp⟩ := task_par h
  have h1 : ((trRun Mem R z t T).M.length : Int) ≤ ((0 : Nat) : Int) + cntS T := texec_len (liveSrc R z) (lst (logF t) 8) (wT (Mem.getD 8 0)) (wN (Mem.getD 8 0)) T ⟨⟨Mem.take 8, [], []⟩, [], []⟩
  have h2 := cntS_small hb hp
  omega
theorem TraceIs.size {P : List Tk} {Mem R : List Int} {z : Int} {r : Bool} {M : List Mic} {U : List Int} (h : TraceIs P Mem R z r M U) : M.length ≤ 15002 ∧ U.length ≤ 3000 := by
  rcases h with ⟨_, rfl, rfl, _⟩ | ⟨_, _, t, T, hT, rfl, rfl⟩
  · simp
  · have h1 := trRun_len hT Mem R z
    have h2 := hT.small (liveSrc R z)
    rw [trRun_x]
    refine ⟨by simp [endM]; omega, by omega⟩
/-- The steps cost something, and not much. -/
theorem TraceIs.cost {P : List Tk} {Mem R : List Int} {z : Int} {M : List Mic} {U : List Int} (h : TraceIs P Mem R z true M U) : CostOk M ∧ M ≠ [] := by
  rcases h with ⟨e, _⟩ | ⟨_, _, t, T, hT, rfl, _⟩
  · cases e
  · obtain ⟨hb, hp⟩ := task_par hT
    refine ⟨(texec_cost T (par_allS hb hp) _ nil_cost).app ?_, by simp [endM]⟩
    intro m hm
    rcases List.mem_cons.1 hm with rfl | hm
    · decide
    · rw [List.mem_singleton.1 hm]; simp [wrM]
theorem sent_at {Mem : List Int} {tl : Nat} {S : List Int} (hl : Mem.length = 49) (h24 : tl ≤ 24) {X : List Int} (hb : ∀ j, X[25 + j]? = boxAt Mem S tl j) {e : Nat} (he : e = min 24 (tl + S.length)) : (X.drop 25).take e = ((Mem.drop 25).take tl ++ S).take 24 := by
  refine List.ext_getElem? fun j => ?_
  have hlen : ((Mem.drop 25).take tl).length = tl := by rw [List.length_take, List.length_drop, hl]; omega
  by_cases hj : j < e
  · rw [List.getElem?_take_of_lt hj, List.getElem?_drop, hb j, List.getElem?_take_of_lt (by omega)]
    unfold boxAt
    by_cases hc : tl ≤ j
    · rw [if_pos ⟨hc, by omega, by omega⟩, List.getElem?_append_right (by omega), hlen]
    · rw [if_neg (by omega), List.getElem?_append_left (by omega), List.getElem?_take_of_lt (by omega), List.getElem?_drop]
  · rw [List.getElem?_eq_none (by rw [List.length_take]; omega), List.getElem?_eq_none (by rw [List.length_take, List.length_append, hlen]; omega)]
/-- All writes of a trace together do what the task means. -/
theorem trace_does {P : List Tk} {Mem R U : List Int} {z : Int} {M : List Mic} (h : TraceIs P Mem R z true M U) {r : Bool} {E : Eff} (hE : EffIs P (Mem.take 8) U (wT (Mem.getD 8 0)) r E) :
    r = true ∧ E.U = U.length ∧ (putAll Mem (wrs M)).length = 49 ∧ (putAll Mem (wrs M)).take 8 = E.V ∧
      (wOk ((putAll Mem (wrs M)).getD 8 0) = true ∧ wT ((putAll Mem (wrs M)).getD 8 0) = E.N ∧ wC ((putAll Mem (wrs M)).getD 8 0) = 0 ∧ wN ((putAll Mem (wrs M)).getD 8 0) = min 24 (wN (Mem.getD 8 0) + E.S.length)) ∧
      sentV (putAll Mem (wrs M)) = (sentV Mem ++ E.S).take 24 := by
  rcases h with ⟨e, _⟩ | ⟨_, hok, t, T, hT, rfl, rfl⟩
  · cases e
  obtain ⟨hb, hp⟩ := task_par hT
  have hc := mem_ctl hok.1
  obtain ⟨tl, htl⟩ : ∃ tl : Nat, wN (Mem.getD 8 0) = tl := ⟨(wN (Mem.getD 8 0)).toNat, by omega⟩
  obtain ⟨y, hy⟩ : ∃ y, trRun Mem R z t T = y := ⟨_, rfl⟩
  have hyx : y.x = exec (liveSrc R z) T ⟨Mem.take 8, [], []⟩ := by rw [← hy]; exact trRun_x ..
  have hg := hT.good (liveSrc_val R z)
  rw [← hyx] at hg
  have hT2 : TaskAt P (Mem.take 8) y.x.U (wT (Mem.getD 8 0)) t T := ⟨hT.1, hT.2.1, (allV_iff _).2 hg.2.2, hT.2.2.2⟩
  have hsrc : exec (listSrc y.x.U) T ⟨Mem.take 8, [], []⟩ = y.x := by
    rw [hyx]; exact exec_src T _ (List.prefix_refl _)
  rw [hy] at hE ⊢
  obtain ⟨rfl, rfl⟩ : r = true ∧ E = effOf P t y.x := by
    rcases hE with ⟨_, _, h⟩ | ⟨h1, t', T', h, h2⟩
    · exact (hT2.not h).elim
    · obtain ⟨rfl, rfl⟩ := hT2.unique h
      exact ⟨h1, by rw [h2, hsrc]⟩
  have hinv : MemInv (lst (logF t) 8) Mem tl y := by
    rw [← hy]
    unfold trRun
    rw [htl]
    refine texec_mem (lst_vrs _) T (par_allS hb hp) _ ⟨⟨List.nodup_nil, fun k hk => by cases hk⟩, hok.1.2.1, rfl, fun j => (boxAt_nil _ _ _).symm⟩
  obtain ⟨_, i2, i3, i4⟩ := hinv
  have hw : putAll Mem (wrs (y.M ++ endM P t (wN (Mem.getD 8 0)) y)) = put1 (putAll Mem (wrs y.M)) ⟨8, packV (nx (evalV y.x.V t.o t.x t.y) P.length) 0 (min 24 (wN (Mem.getD 8 0) + y.x.S.length))⟩ := by
    rw [wrs_app, putAll_app]
    rfl
  rw [hw]
  obtain ⟨c, hcv⟩ : ∃ c, packV (nx (evalV y.x.V t.o t.x t.y) P.length) 0 (min 24 (wN (Mem.getD 8 0) + y.x.S.length)) = c := ⟨_, rfl⟩
  rw [hcv]
  have hm := put_mid i2 (p := 8) (v := c) (by omega) (by omega)
  have hP := hT.1.1
  have hP6 := hT.1.2.1
  have hnx := nx_range (v := evalV y.x.V t.o t.x t.y) (n := P.length) (by omega)
  have hco : ctlOk (nx (evalV y.x.V t.o t.x t.y) P.length) 0 (min 24 (wN (Mem.getD 8 0) + y.x.S.length)) = true := (ctlOk_iff _ _ _).2 (by omega)
  have hpp := parts_pack hco
  rw [hcv] at hpp
  have h8 : (put1 (putAll Mem (wrs y.M)) ⟨8, c⟩).getD 8 0 = c := by
    rw [put1_in (k := 8) rfl (by omega), List.getD_eq_getElem?_getD, List.getElem?_set_self (by omega)]
    rfl
  have hwok : wOk c = true := by unfold wOk; rw [hpp.1, hpp.2.1, hpp.2.2]; exact hco
  refine ⟨rfl, rfl, by rw [put1_len, i2], by rw [hm.1, i3]; rfl, ⟨by rw [h8]; exact hwok, by rw [h8]; exact hpp.1, by rw [h8]; exact hpp.2.1, by rw [h8]; exact hpp.2.2⟩, ?_⟩
  unfold sentV
  rw [h8, if_pos hwok, if_pos hok.1.2.2.1, hpp.2.2, htl, show ((tl : Int)).toNat = tl by omega]
  exact sent_at (S := y.x.S) hok.1.2.1 (by omega) (fun j => by rw [hm.2 j, i4 j]) (by omega)
end Go.Proofs.YtmgeecdgebemdaaGreatDoor.trc

/- Chapter 15, plain mathematics: what RecoveryWrites must give. -/
namespace Go.Proofs.YtmgeecdgebemdaaGreatDoor.rcv
open Go Go.Proofs.YtmgeecdgebemdaaGreatDoor.stm Go.Proofs.YtmgeecdgebemdaaGreatDoor.val Go.Proofs.YtmgeecdgebemdaaGreatDoor.wrt Go.Proofs.YtmgeecdgebemdaaGreatDoor.ctl
/-! The recovery. -/
def recEnt (W : List Int) (c : Nat) : List Wt := (List.range c).reverse.map fun i => ⟨W.getD (9 + 2 * i) 0, W.getD (10 + 2 * i) 0⟩
def RecOk (W : List Int) : Prop := W.length = 49 ∧ wOk (W.getD 8 0) = true ∧ 0 < wC (W.getD 8 0) ∧ ∀ i, i < (wC (W.getD 8 0)).toNat → varOk (W.getD (9 + 2 * i) 0) = true
/-- What RecoveryWrites must give. -/
def RecIs (W : List Int) (Q : List Wt) : Prop :=
  (RecOk W ∧ Q = recEnt W (wC (W.getD 8 0)).toNat ++ [⟨8, packV (wT (W.getD 8 0)) 0 (wN (W.getD 8 0))⟩]) ∨ (¬ RecOk W ∧ Q = [])
theorem recIs_ex (W : List Int) : ∃ Q, RecIs W Q := by
  rcases Classical.em (RecOk W) with h | h
  · exact ⟨_, .inl ⟨h, rfl⟩⟩
  · exact ⟨_, .inr ⟨h, rfl⟩⟩
theorem RecIs.unique {W : List Int} {Q Q' : List Wt} (h : RecIs W Q) (h' : RecIs W Q') : Q = Q' := by
  rcases h with ⟨h1, rfl⟩ | ⟨h1, rfl⟩ <;> rcases h' with ⟨h2, rfl⟩ | ⟨h2, rfl⟩
  · rfl
  · exact absurd h1 h2
  · exact absurd h2 h1
  · rfl
/-- The entries from the last one on, the first 'j' of them. -/
def recTop (W : List Int) (c j : Nat) : List Wt := (List.range j).map fun m => ⟨W.getD (9 + 2 * (c - 1 - m)) 0, W.getD (10 + 2 * (c - 1 - m)) 0⟩
theorem recTop_next (W : List Int) {c p : Nat} (h : p < c) : recTop W c (c - p) = recTop W c (c - (p + 1)) ++ [⟨W.getD (9 + 2 * p) 0, W.getD (10 + 2 * p) 0⟩] := by
  unfold recTop
  rw [show c - p = c - (p + 1) + 1 by omega, List.range_succ, List.map_append]
  rw [show c - (p + 1) = c - 1 - p by omega]
  simp [show c - 1 - (c - 1 - p) = p by omega]
theorem recTop_all (W : List Int) (c : Nat) : recTop W c c = recEnt W c := by
  refine List.ext_getElem (by simp [recTop, recEnt]) fun i h1 h2 => ?_
  simp [recTop, recEnt]
theorem RecIs.none {W : List Int} {Q : List Wt} (h : RecIs W Q) (hn : ¬ RecOk W) : Q = [] := by
  rcases h with ⟨h1, _⟩ | ⟨_, h1⟩
  · exact absurd h1 hn
  · exact h1
theorem RecIs.some {W : List Int} {Q : List Wt} (h : RecIs W Q) (hy : RecOk W) : Q = recEnt W (wC (W.getD 8 0)).toNat ++ [⟨8, packV (wT (W.getD 8 0)) 0 (wN (W.getD 8 0))⟩] := by
  rcases h with ⟨_, h1⟩ | ⟨h1, _⟩
  · exact h1
  · exact absurd hy h1
end Go.Proofs.YtmgeecdgebemdaaGreatDoor.rcv

/- Chapter 15, plain mathematics: the recovery; an execution that is interrupted anywhere is undone. -/
namespace Go.Proofs.YtmgeecdgebemdaaGreatDoor.rcv
open Go Go.Proofs.YtmgeecdgebemdaaGreatDoor.stm Go.Proofs.YtmgeecdgebemdaaGreatDoor.blk Go.Proofs.YtmgeecdgebemdaaGreatDoor.expr Go.Proofs.YtmgeecdgebemdaaGreatDoor.sets Go.Proofs.YtmgeecdgebemdaaGreatDoor.val Go.Proofs.YtmgeecdgebemdaaGreatDoor.prg Go.Proofs.YtmgeecdgebemdaaGreatDoor.exe Go.Proofs.YtmgeecdgebemdaaGreatDoor.wrt Go.Proofs.YtmgeecdgebemdaaGreatDoor.ctl Go.Proofs.YtmgeecdgebemdaaGreatDoor.mem Go.Proofs.YtmgeecdgebemdaaGreatDoor.trc
section
variable (D Mem : List Int) (May : Int → Prop) (tk : Int) (tl : Nat)
end
section
variable {D Mem : List Int} {May : Int → Prop} {tk : Int} {tl : Nat}
end
section
variable {D Mem W : List Int} {May : Int → Prop} {tk : Int} {tl : Nat} {P : List Tk}
end
end Go.Proofs.YtmgeecdgebemdaaGreatDoor.rcv
