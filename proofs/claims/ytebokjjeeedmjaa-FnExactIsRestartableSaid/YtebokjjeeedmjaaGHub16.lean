/- Several texts in one: TkB TkC TkD EvalB EvalE PrgW. -/
import Derived.Test.YtebokjjeeedmjaaGHub15
import Derived.Deep.RegionHeld3
import Derived.Test.YtebokjjeeedmjaaGHub2
import Derived.Laws.EntriesVeiled
import Derived.Test.YtebokjjeeedmjaaGHub10
import Derived.IntWalk

/- The law's own copy, size and comparison of a list of tasks and of a program; nothing that was there is written. -/
namespace Go.Proofs.Ytebokjjeeedmjaa.prg
open Go Go.ChangeShapes Go.WideShapes Go.ChangeAt Go.RowKit Go.Proofs.Ytebokjjeeedmjaa.row Go.Proofs.Ytebokjjeeedmjaa.val Go.Proofs.Ytebokjjeeedmjaa.expr Go.Proofs.Ytebokjjeeedmjaa.stm Go.Proofs.Ytebokjjeeedmjaa.blk

theorem infoTask : (Try.prog.info? 33).map (fun i => (i.zero, i.size, i.bytes)) = some (some (tkV none 0 0 ⟨[], 0, 0, 0⟩), 4, 48) := by kernel_rfl
theorem prg_at {P : List Tk} {k : Nat} (h : k < P.length) : ∃ t, P[k]? = some t := ⟨P[k], by simp [h]⟩
theorem mem_at {P : List Tk} {k : Nat} {t : Tk} (h : P[k]? = some t) : t ∈ P := List.mem_of_getElem? h
/-- A copy of the list of tasks in new memory. -/
def MadeTks (w : World) (n : Nat) (P : List Tk) (e : Ending) (w' : World) : Prop :=
  ∃ a' : Option Addr, e = .returned (.slice a' n n) ∧ Hid (TkFrom w.heap.size w' a' n P) ∧ Below w.heap.size w w'
/-- A copy of the program in new memory. -/
def MadePrg (w : World) (n : Nat) (P : List Tk) (e : Ending) (w' : World) : Prop :=
  ∃ a' : Option Addr, e = .returned (.agg #[.slice a' n n]) ∧ Hid (TkFrom w.heap.size w' a' n P) ∧ Below w.heap.size w w'
end Go.Proofs.Ytebokjjeeedmjaa.prg

/- The law's own copy of a program, the sizes and the comparison of lists of tasks and of programs; nothing that was there is written. -/
namespace Go.Proofs.Ytebokjjeeedmjaa.prg
open Go Go.ChangeShapes Go.WideShapes Go.ChangeAt Go.RowKit Go.Proofs.Ytebokjjeeedmjaa.row Go.Proofs.Ytebokjjeeedmjaa.val Go.Proofs.Ytebokjjeeedmjaa.expr Go.Proofs.Ytebokjjeeedmjaa.stm Go.Proofs.Ytebokjjeeedmjaa.blk

/-- What is left of a size, or less than nothing; the sizes are then bounded. -/
def SzOut (w : World) (x : Int) (S : Prop) (e : Ending) (w' : World) : Prop := ∃ r : Int, e = .returned (.int .i64 r) ∧ -1 ≤ r ∧ r ≤ x ∧ Hid (0 ≤ r → S) ∧ Below w.heap.size w w'
theorem sztask_any (t : Tk) (ab : Option Addr) (nb cb : Nat) (x : Int) (hn : nb ≤ maxLen) (hx : 0 ≤ x) (hx2 : x ≤ 1048576) (hl : t.b.length = nb) (w : World) :
    Calls Try.prog 15 #[tkV ab nb cb t, .int .i64 x] w (SzOut w x (t.b.length ≤ 1048576)) := by
  have hm : (nb : Int) ≤ 9223372036854775807 := by unfold maxLen at hn; omega
  have HL := Lib.hid hl
  clear hl hn
  by_cases h : x - nb < 0
  · have HI := Lib.hid (show (if x - nb < 0 then (-1 : Int) else x - nb) = -1 from if_pos h)
    clear h
    go_enter Try.func15, Try.ntmps15
    go_wp2_with (go_at_call 36; refine (sz_any _ _ _ _ hm hx (by omega) _).mono ?_; rw [HI.out]; rintro e w1 ⟨rfl, rfl⟩)
    go_ret
    exact ⟨-1, rfl, by omega, by omega, fun h => by omega, below_new w _⟩
  · have HI := Lib.hid (show (if x - nb < 0 then (-1 : Int) else x - nb) = x - nb from if_neg h)
    have h0 : 0 ≤ x - nb := by omega
    have hnb : nb ≤ 1048576 := by omega
    go_enter Try.func15, Try.ntmps15
    go_wp2_with (go_at_call 36; refine (sz_any _ _ _ _ hm hx (by omega) _).mono ?_; rw [HI.out]; rintro e w1 ⟨rfl, rfl⟩)
    go_ret
    exact ⟨x - nb, rfl, by omega, by omega, fun _ => by rw [HL.out]; exact hnb, below_new w _⟩
end Go.Proofs.Ytebokjjeeedmjaa.prg

/- The law's own comparison of tasks and programs; nothing that was there is written. -/
namespace Go.Proofs.Ytebokjjeeedmjaa.prg
open Go Go.ChangeShapes Go.WideShapes Go.ChangeAt Go.RowKit Go.Proofs.Ytebokjjeeedmjaa.row Go.Proofs.Ytebokjjeeedmjaa.val Go.Proofs.Ytebokjjeeedmjaa.expr Go.Proofs.Ytebokjjeeedmjaa.stm Go.Proofs.Ytebokjjeeedmjaa.blk

set_option maxHeartbeats 2000000 in
set_option maxRecDepth 100000 in
theorem eqtask_any (t : Tk) (a a' : Option Addr) (n cap cap' : Nat) (w : World) (hn : (n : Int) ≤ 1048576) (h1 : StRow w a n t.b) (h2 : StRow w a' n t.b) :
    Calls Try.prog 19 #[tkV a n cap t, tkV a' n cap' t] w (BelB w true) := by
  obtain ⟨B, o, x, y⟩ := t
  obtain ⟨W, hW⟩ : ∃ W, W = (w.alloc (.cells #[.slice a n cap, .int .i64 o, .int .i64 x, .int .i64 y] 33)).alloc (.cells #[.slice a' n cap', .int .i64 o, .int .i64 x, .int .i64 y] 33) := ⟨_, rfl⟩
  have e1 : ∀ x : Obj, (w.alloc x).heap.size = w.heap.size + 1 := fun x => by simp
  have b0 : Box w.heap.size #[.slice a n cap, .int .i64 o, .int .i64 x, .int .i64 y] 33 W := by
    rw [hW]; exact (Box.new w _ _).alloc _
  have b1 : Box (w.heap.size + 1) #[.slice a' n cap', .int .i64 o, .int .i64 x, .int .i64 y] 33 W := by
    have h9 := Box.new (w.alloc (.cells #[.slice a n cap, .int .i64 o, .int .i64 x, .int .i64 y] 33)) #[.slice a' n cap', .int .i64 o, .int .i64 x, .int .i64 y] 33
    rw [e1] at h9; rw [hW]; exact h9
  have hb : Below w.heap.size w W := by rw [hW]; exact ((Below.refl _ _).alloc (Nat.le_refl _) _).alloc (by simp) _
  have H0 := Lib.hid (And.intro b0 (And.intro b1 (And.intro hb (And.intro (h1.below hb) (h2.below hb)))))
  have HW := Lib.hid hW
  clear b0 b1 hb hW e1 h1 h2
  go_enter Try.func19, Try.ntmps19
  go_wp2_with (go_at_call 44; rw [← HW.out]; refine (eqStmts_any W a a' n cap cap' B hn H0.out.2.2.2.1 H0.out.2.2.2.2).mono ?_; rintro e w1 ⟨rfl, hb1⟩; refine Hid.out ?_)
  have c0 := H0.out.1.below hb1
  have c1 := H0.out.2.1.below hb1
  have r1 : w1.cell? ⟨w.heap.size, 1, none⟩ = some (.int .i64 o) := c0.cell 1
  have r2 : w1.cell? ⟨w.heap.size, 2, none⟩ = some (.int .i64 x) := c0.cell 2
  have r3 : w1.cell? ⟨w.heap.size, 3, none⟩ = some (.int .i64 y) := c0.cell 3
  have q1 : w1.cell? ⟨w.heap.size + 1, 1, none⟩ = some (.int .i64 o) := c1.cell 1
  have q2 : w1.cell? ⟨w.heap.size + 1, 2, none⟩ = some (.int .i64 x) := c1.cell 2
  have q3 : w1.cell? ⟨w.heap.size + 1, 3, none⟩ = some (.int .i64 y) := c1.cell 3
  have HB := Lib.hid (below_then H0.out.2.2.1 hb1)
  clear hb1 c0 c1
  refine Lib.hid ?_
  go_wp2_with (go_at_call 45; refine (eqexpr_same o x y _).mono ?_; rintro e w2 ⟨rfl, hb2⟩)
  go_ret
  exact ⟨rfl, below_then HB.out hb2⟩
end Go.Proofs.Ytebokjjeeedmjaa.prg

/- Chapter 3's EvalExpr, of the program and of the model: the plain function 'evalV'; nothing that was there is written. -/
namespace Go.Proofs.Ytebokjjeeedmjaa.expr
open Go.ChangeShapes Go.WideShapes Go.ChangeAt Go.RowKit Go.Proofs.Ytebokjjeeedmjaa.row Go.Proofs.Ytebokjjeeedmjaa.val

def bit (b : Bool) : Int := if b then 1 else 0
def evalOf (o A B : Int) : Int :=
  if o = 1 then sat (sat A + sat B) else if o = 2 then sat (sat A - sat B) else if o = 3 then sat (sat A * sat B)
  else if o = 4 then min A B else if o = 5 then max A B else if o = 6 then bit (decide (A < B)) else bit (decide (A = B))
def evalV (L : List Int) (o a b : Int) : Int := if varsOk L && exprOk o a b then evalOf o (valOf L a) (valOf L b) else 0
theorem evalV_no {L : List Int} {o a b : Int} (h : varsOk L = false ∨ exprOk o a b = false) : evalV L o a b = 0 := by
  rcases h with h | h <;> simp [evalV, h]
theorem evalV_ok {L : List Int} {o a b : Int} (h : varsOk L = true) (h2 : exprOk o a b = true) : evalV L o a b = evalOf o (valOf L a) (valOf L b) := by simp [evalV, h, h2]
theorem exprOk_iff (o a b : Int) : exprOk o a b = true ↔ (1 ≤ o ∧ o ≤ 7) ∧ opndOk a = true ∧ opndOk b = true := by simp [exprOk, opOk]

theorem ev1 (A B : Int) : evalOf 1 A B = sat (sat A + sat B) := by simp [evalOf]
theorem ev2 (A B : Int) : evalOf 2 A B = sat (sat A - sat B) := by simp [evalOf]
theorem ev3 (A B : Int) : evalOf 3 A B = sat (sat A * sat B) := by simp [evalOf]
theorem ev4 (A B : Int) : evalOf 4 A B = min A B := by simp [evalOf]
theorem ev5 (A B : Int) : evalOf 5 A B = max A B := by simp [evalOf]
theorem ev6 (A B : Int) : evalOf 6 A B = bit (decide (A < B)) := by simp [evalOf]
theorem ev7 (A B : Int) : evalOf 7 A B = bit (decide (A = B)) := by simp [evalOf]
section model
end model

section program
end program
end Go.Proofs.Ytebokjjeeedmjaa.expr

/- The value of an expression is a value. Plain mathematics. -/
namespace Go.Proofs.Ytebokjjeeedmjaa.expr
open Go.ChangeShapes Go.WideShapes Go.ChangeAt Go.RowKit Go.Proofs.Ytebokjjeeedmjaa.row Go.Proofs.Ytebokjjeeedmjaa.val

theorem sat_val (n : Int) : isVal (sat n) = true := isVal_in (sat_bd n).1 (sat_bd n).2
theorem bit_val (b : Bool) : isVal (bit b) = true := by cases b <;> rfl
theorem valOf_val {L : List Int} (h : varsOk L = true) {m : Int} (hm : opndOk m = true) : isVal (valOf L m) = true := by
  have hb := (opndOk_iff m).1 hm
  unfold valOf
  split
  · rename_i h0
    obtain ⟨h1, _⟩ := opnd_at h hm h0
    rw [List.getD_eq_getElem?_getD, List.getElem?_eq_getElem h1]
    exact ((varsOk_iff L).1 h).2 _ (List.getElem_mem h1)
  · exact isVal_in (by omega) (by omega)
theorem evalOf_val {o A B : Int} (hA : isVal A = true) (hB : isVal B = true) : isVal (evalOf o A B) = true := by
  have a := (isVal_iff A).1 hA
  have b := (isVal_iff B).1 hB
  unfold evalOf
  split
  · exact sat_val _
  split
  · exact sat_val _
  split
  · exact sat_val _
  split
  · exact isVal_in (by omega) (by omega)
  split
  · exact isVal_in (by omega) (by omega)
  split
  · exact bit_val _
  · exact bit_val _
theorem evalV_val (L : List Int) (o a b : Int) : isVal (evalV L o a b) = true := by
  unfold evalV
  split
  · rename_i h
    rw [Bool.and_eq_true] at h
    obtain ⟨_, ha, hb⟩ := (exprOk_iff o a b).1 h.2
    exact evalOf_val (valOf_val h.1 ha) (valOf_val h.1 hb)
  · rfl
end Go.Proofs.Ytebokjjeeedmjaa.expr

/- Chapter 6's model: ProgramOk, NextTask: what the plain relations say; nothing that was there is written. -/
namespace Go.Proofs.Ytebokjjeeedmjaa.prg
open Go Go.ChangeShapes Go.WideShapes Go.ChangeAt Go.RowKit Go.Proofs.Ytebokjjeeedmjaa.row Go.Proofs.Ytebokjjeeedmjaa.val Go.Proofs.Ytebokjjeeedmjaa.expr Go.Proofs.Ytebokjjeeedmjaa.stm Go.Proofs.Ytebokjjeeedmjaa.blk

/-- Each task ahead of 'k' is valid. -/
def OkTasks (P : List Tk) (k : Nat) : Prop := ∀ j t, j < k → P[j]? = some t → IsBlk t.b ∧ exprOk t.o t.x t.y = true
theorem OkTasks.zero (P : List Tk) : OkTasks P 0 := fun j t h => by omega
theorem OkTasks.next {P : List Tk} {k : Nat} {t : Tk} (h : OkTasks P k) (ht : P[k]? = some t) (hb : IsBlk t.b) (he : exprOk t.o t.x t.y = true) : OkTasks P (k + 1) := fun j t' hj ht' => by
  by_cases e : j = k
  · subst e; rw [ht] at ht'; cases ht'; exact ⟨hb, he⟩
  · exact h j t' (by omega) ht'
theorem isPrg_iff {P : List Tk} : IsPrg P ↔ (1 ≤ P.length ∧ P.length ≤ 6) ∧ OkTasks P P.length := by
  refine ⟨fun h => ⟨⟨h.1, h.2.1⟩, fun j t _ ht => h.2.2 t (mem_at ht)⟩, fun h => ⟨h.1.1, h.1.2, fun t ht => ?_⟩⟩
  obtain ⟨j, hj⟩ := List.mem_iff_getElem?.1 ht
  exact h.2 j t (List.getElem?_eq_some_iff.1 hj).1 hj
theorem not_prg {P : List Tk} {k : Nat} {t : Tk} (ht : P[k]? = some t) (h : ¬ IsBlk t.b ∨ exprOk t.o t.x t.y = false) : ¬ IsPrg P := fun hp => by
  have := hp.2.2 t (mem_at ht)
  rcases h with h | h
  · exact h this.1
  · rw [h] at this; exact absurd this.2 (by decide)
theorem prg_dec (P : List Tk) : ∃ r : Bool, r = true ↔ IsPrg P := by
  rcases Classical.em (IsPrg P) with h | h
  · exact ⟨true, fun _ => h, fun _ => rfl⟩
  · exact ⟨false, fun e => (by cases e), fun e => absurd e h⟩
/-- The program's argument: its block, and what lies behind. -/
abbrev PrgW (w W : World) (a : Option Addr) (n cap : Nat) (P : List Tk) : Prop :=
  W.cell? ⟨w.heap.size, 0, none⟩ = some (.slice a n cap) ∧ TkRow W a n P ∧ Below w.heap.size w W ∧ W.heap.size = w.heap.size + 1
theorem prgW_new (w : World) (a : Option Addr) (n cap : Nat) (P : List Tk) (t : TypeId) (h : TkRow w a n P) : PrgW w (w.alloc (.cells #[.slice a n cap] t)) a n cap P :=
  ⟨(Box.new w #[.slice a n cap] t).cell 0, h.below (below_new w _), below_new w _, by simp⟩
/-- The remainder from 0 on. -/
def nx (v : Int) (n : Nat) : Int := if v.tmod n < 0 then v.tmod n + n else v.tmod n
theorem tmod_bds {v : Int} {n : Nat} (hn : 0 < n) : -(n : Int) < v.tmod n ∧ v.tmod n < n := ⟨Int.lt_tmod_of_pos v (by omega), Int.tmod_lt_of_pos v (by omega)⟩
theorem nx_range {v : Int} {n : Nat} (hn : 0 < n) : 0 ≤ nx v n ∧ nx v n < n := by
  have := tmod_bds (v := v) hn
  unfold nx; split <;> omega
theorem nx_emod {v : Int} {n : Nat} (hn : 0 < n) : nx v n = v % (n : Int) := by
  have h1 := nx_range (v := v) hn
  have h2 : nx v n = (nx v n) % (n : Int) := (Int.emod_eq_of_lt h1.1 h1.2).symm
  rw [h2]
  have h3 : v = (n : Int) * v.tdiv n + v.tmod n := (Int.mul_tdiv_add_tmod v n).symm
  unfold nx
  split
  · rw [Int.add_emod_right]; conv => rhs; rw [h3]
    rw [Int.add_comm, Int.add_mul_emod_self_left]
  · conv => rhs; rw [h3]
    rw [Int.add_comm, Int.add_mul_emod_self_left]
/-- What NextTask must give. -/
def NextIs (P : List Tk) (V : List Int) (i x : Int) : Prop :=
  (∃ (j : Nat) (t : Tk), i = j ∧ P[j]? = some t ∧ IsPrg P ∧ varsOk V = true ∧ x = nx (evalV V t.o t.x t.y) P.length) ∨ (x = -1 ∧ (¬ IsPrg P ∨ varsOk V = false ∨ i < 0 ∨ (P.length : Int) ≤ i))
theorem nextIs_ex (P : List Tk) (V : List Int) (i : Int) : ∃ x, NextIs P V i x := by
  rcases Classical.em (IsPrg P) with hp | hp
  · cases hv : varsOk V
    · exact ⟨-1, .inr ⟨rfl, .inr (.inl hv)⟩⟩
    · rcases (show i < 0 ∨ (P.length : Int) ≤ i ∨ (0 ≤ i ∧ i < P.length) by omega) with h | h | h
      · exact ⟨-1, .inr ⟨rfl, .inr (.inr (.inl h))⟩⟩
      · exact ⟨-1, .inr ⟨rfl, .inr (.inr (.inr h))⟩⟩
      · obtain ⟨j, rfl⟩ : ∃ j : Nat, i = j := ⟨i.toNat, by omega⟩
        obtain ⟨t, ht⟩ := prg_at (show j < P.length by omega)
        exact ⟨_, .inl ⟨j, t, rfl, ht, hp, hv, rfl⟩⟩
  · exact ⟨-1, .inr ⟨rfl, .inl hp⟩⟩
theorem NextIs.not {P : List Tk} {V : List Int} {i x : Int} (h : NextIs P V i x) (hn : ¬ IsPrg P ∨ varsOk V = false ∨ i < 0 ∨ (P.length : Int) ≤ i) : x = -1 := by
  rcases h with ⟨j, t, rfl, ht, hp, hv, rfl⟩ | ⟨rfl, _⟩
  · have := (List.getElem?_eq_some_iff.1 ht).1
    rcases hn with h | h | h | h
    · exact absurd hp h
    · rw [h] at hv; cases hv
    · omega
    · omega
  · rfl
theorem NextIs.yes {P : List Tk} {V : List Int} {j : Nat} {x : Int} {t : Tk} (h : NextIs P V j x) (hp : IsPrg P) (hv : varsOk V = true) (ht : P[j]? = some t) : x = nx (evalV V t.o t.x t.y) P.length := by
  have := (List.getElem?_eq_some_iff.1 ht).1
  rcases h with ⟨j', t', hj, ht', _, _, rfl⟩ | ⟨_, h⟩
  · obtain rfl : j = j' := by omega
    rw [ht] at ht'; cases ht'; rfl
  · rcases h with h | h | h | h
    · exact absurd hp h
    · rw [h] at hv; cases hv
    · omega
    · omega
theorem ev_small (V : List Int) (o a b : Int) : -1000000 ≤ evalV V o a b ∧ evalV V o a b ≤ 1000000 := by
  have := evalV_val V o a b
  unfold isVal at this
  simp at this
  exact this
end Go.Proofs.Ytebokjjeeedmjaa.prg
