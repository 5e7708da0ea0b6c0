/- Several texts in one: TkB TkC TkD EvalB EvalE. -/
import Derived.Test.YtodlbbojjnkneaaGHub19
import Derived.Deep.RegionHeld3
import Derived.Test.YtodlbbojjnkneaaGHub3
import Derived.Laws.EntriesVeiled

/- The law's own copy, size and comparison of a list of tasks and of a program; nothing that was there is written. -/
namespace Go.Proofs.Ytodlbbojjnkneaa.prg
open Go Go.ChangeShapes Go.WideShapes Go.ChangeAt Go.RowKit Go.Proofs.Ytodlbbojjnkneaa.row Go.Proofs.Ytodlbbojjnkneaa.val Go.Proofs.Ytodlbbojjnkneaa.expr Go.Proofs.Ytodlbbojjnkneaa.stm Go.Proofs.Ytodlbbojjnkneaa.blk

theorem infoTask : (Try.prog.info? 28).map (fun i => (i.zero, i.size, i.bytes)) = some (some (tkV none 0 0 ⟨[], 0, 0, 0⟩), 4, 48) := by kernel_rfl
theorem prg_at {P : List Tk} {k : Nat} (h : k < P.length) : ∃ t, P[k]? = some t := ⟨P[k], by simp [h]⟩
theorem mem_at {P : List Tk} {k : Nat} {t : Tk} (h : P[k]? = some t) : t ∈ P := List.mem_of_getElem? h
/-- A copy of the list of tasks in new memory. -/
def MadeTks (w : World) (n : Nat) (P : List Tk) (e : Ending) (w' : World) : Prop :=
  ∃ a' : Option Addr, e = .returned (.slice a' n n) ∧ Hid (TkFrom w.heap.size w' a' n P) ∧ Below w.heap.size w w'
/-- A copy of the program in new memory. -/
def MadePrg (w : World) (n : Nat) (P : List Tk) (e : Ending) (w' : World) : Prop :=
  ∃ a' : Option Addr, e = .returned (.agg #[.slice a' n n]) ∧ Hid (TkFrom w.heap.size w' a' n P) ∧ Below w.heap.size w w'
end Go.Proofs.Ytodlbbojjnkneaa.prg

/- The law's own copy of a program, the sizes and the comparison of lists of tasks and of programs; nothing that was there is written. -/
namespace Go.Proofs.Ytodlbbojjnkneaa.prg
open Go Go.ChangeShapes Go.WideShapes Go.ChangeAt Go.RowKit Go.Proofs.Ytodlbbojjnkneaa.row Go.Proofs.Ytodlbbojjnkneaa.val Go.Proofs.Ytodlbbojjnkneaa.expr Go.Proofs.Ytodlbbojjnkneaa.stm Go.Proofs.Ytodlbbojjnkneaa.blk

/-- What is left of a size, or less than nothing; the sizes are then bounded. -/
def SzOut (w : World) (x : Int) (S : Prop) (e : Ending) (w' : World) : Prop := ∃ r : Int, e = .returned (.int .i64 r) ∧ -1 ≤ r ∧ r ≤ x ∧ Hid (0 ≤ r → S) ∧ Below w.heap.size w w'
theorem sztask_any (t : Tk) (ab : Option Addr) (nb cb : Nat) (x : Int) (hn : nb ≤ maxLen) (hx : 0 ≤ x) (hx2 : x ≤ 1048576) (hl : t.b.length = nb) (w : World) :
    Calls Try.prog 14 #[tkV ab nb cb t, .int .i64 x] w (SzOut w x (t.b.length ≤ 1048576)) := by
  have hm : (nb : Int) ≤ 9223372036854775807 := by unfold maxLen at hn; omega
  have HL := Lib.hid hl
  clear hl hn
  by_cases h : x - nb < 0
  · have HI := Lib.hid (show (if x - nb < 0 then (-1 : Int) else x - nb) = -1 from if_pos h)
    clear h
    go_enter Try.func14, Try.ntmps14
    go_wp2_with (go_at_call 29; refine (sz_any _ _ _ _ hm hx (by omega) _).mono ?_; rw [HI.out]; rintro e w1 ⟨rfl, rfl⟩)
    go_ret
    exact ⟨-1, rfl, by omega, by omega, fun h => by omega, below_new w _⟩
  · have HI := Lib.hid (show (if x - nb < 0 then (-1 : Int) else x - nb) = x - nb from if_neg h)
    have h0 : 0 ≤ x - nb := by omega
    have hnb : nb ≤ 1048576 := by omega
    go_enter Try.func14, Try.ntmps14
    go_wp2_with (go_at_call 29; refine (sz_any _ _ _ _ hm hx (by omega) _).mono ?_; rw [HI.out]; rintro e w1 ⟨rfl, rfl⟩)
    go_ret
    exact ⟨x - nb, rfl, by omega, by omega, fun _ => by rw [HL.out]; exact hnb, below_new w _⟩
end Go.Proofs.Ytodlbbojjnkneaa.prg

/- The law's own comparison of tasks and programs; nothing that was there is written. -/
namespace Go.Proofs.Ytodlbbojjnkneaa.prg
open Go Go.ChangeShapes Go.WideShapes Go.ChangeAt Go.RowKit Go.Proofs.Ytodlbbojjnkneaa.row Go.Proofs.Ytodlbbojjnkneaa.val Go.Proofs.Ytodlbbojjnkneaa.expr Go.Proofs.Ytodlbbojjnkneaa.stm Go.Proofs.Ytodlbbojjnkneaa.blk

set_option maxHeartbeats 2000000 in
set_option maxRecDepth 100000 in
theorem eqtask_any (t : Tk) (a a' : Option Addr) (n cap cap' : Nat) (w : World) (hn : (n : Int) ≤ 1048576) (h1 : StRow w a n t.b) (h2 : StRow w a' n t.b) :
    Calls Try.prog 17 #[tkV a n cap t, tkV a' n cap' t] w (BelB w true) := by
  obtain ⟨B, o, x, y⟩ := t
  obtain ⟨W, hW⟩ : ∃ W, W = (w.alloc (.cells #[.slice a n cap, .int .i64 o, .int .i64 x, .int .i64 y] 28)).alloc (.cells #[.slice a' n cap', .int .i64 o, .int .i64 x, .int .i64 y] 28) := ⟨_, rfl⟩
  have e1 : ∀ x : Obj, (w.alloc x).heap.size = w.heap.size + 1 := fun x => by simp
  have b0 : Box w.heap.size #[.slice a n cap, .int .i64 o, .int .i64 x, .int .i64 y] 28 W := by
    rw [hW]; exact (Box.new w _ _).alloc _
  have b1 : Box (w.heap.size + 1) #[.slice a' n cap', .int .i64 o, .int .i64 x, .int .i64 y] 28 W := by
    have h9 := Box.new (w.alloc (.cells #[.slice a n cap, .int .i64 o, .int .i64 x, .int .i64 y] 28)) #[.slice a' n cap', .int .i64 o, .int .i64 x, .int .i64 y] 28
    rw [e1] at h9; rw [hW]; exact h9
  have hb : Below w.heap.size w W := by rw [hW]; exact ((Below.refl _ _).alloc (Nat.le_refl _) _).alloc (by simp) _
  have H0 := Lib.hid (And.intro b0 (And.intro b1 (And.intro hb (And.intro (h1.below hb) (h2.below hb)))))
  have HW := Lib.hid hW
  clear b0 b1 hb hW e1 h1 h2
  go_enter Try.func17, Try.ntmps17
  go_wp2_with (go_at_call 35; rw [← HW.out]; refine (eqStmts_any W a a' n cap cap' B hn H0.out.2.2.2.1 H0.out.2.2.2.2).mono ?_; rintro e w1 ⟨rfl, hb1⟩; refine Hid.out ?_)
  have c0 := H0.out.1.below hb1
  have c1 := H0.out.2.1.below hb1
  have r1 : w1.cell? ⟨w.heap.size, 1, none⟩ = some (.int .i64 o) := c0.cell 1
  have r2 : w1.cell? ⟨w.heap.size, 2, none⟩ = some (.int .i64 x) := c0.cell 2
  have r3 : w1.cell? ⟨w.heap.size, 3, none⟩ = some (.int .i64 y) := c0.cell 3
  have q1 : w1.cell? ⟨w.heap.size + 1, 1, none⟩ = some (.int .i64 o) := c1.cell 1
  have q2 : w1.cell? ⟨w.heap.size + 1, 2, none⟩ = some (.int .i64 x) := c1.cell 2
  have q3 : w1.cell? ⟨w.heap.size + 1, 3, none⟩ = some (.int .i64 y) := c1.cell 3
  have HB := Lib.hid (below_then H0.out.2.2.1 hb1)
  clear hb1 c0 c1
  refine Lib.hid ?_
  go_wp2_with (go_at_call 36; refine (eqexpr_same o x y _).mono ?_; rintro e w2 ⟨rfl, hb2⟩)
  go_ret
  exact ⟨rfl, below_then HB.out hb2⟩
end Go.Proofs.Ytodlbbojjnkneaa.prg

/- Chapter 3's EvalExpr, of the program and of the model: the plain function 'evalV'; nothing that was there is written. -/
namespace Go.Proofs.Ytodlbbojjnkneaa.expr
open Go.ChangeShapes Go.WideShapes Go.ChangeAt Go.RowKit Go.Proofs.Ytodlbbojjnkneaa.row Go.Proofs.Ytodlbbojjnkneaa.val

def bit (b : Bool) : Int := if b then 1 else 0
def evalOf (o A B : Int) : Int :=
  if o = 1 then sat (sat A + sat B) else if o = 2 then sat (sat A - sat B) else if o = 3 then sat (sat A * sat B)
  else if o = 4 then min A B else if o = 5 then max A B else if o = 6 then bit (decide (A < B)) else bit (decide (A = B))
def evalV (L : List Int) (o a b : Int) : Int := if varsOk L && exprOk o a b then evalOf o (valOf L a) (valOf L b) else 0
theorem evalV_no {L : List Int} {o a b : Int} (h : varsOk L = false ∨ exprOk o a b = false) : evalV L o a b = 0 := by
  rcases h with h | h <;> simp [evalV, h]
theorem evalV_ok {L : List Int} {o a b : Int} (h : varsOk L = true) (h2 : exprOk o a b = true) : evalV L o a b = evalOf o (valOf L a) (valOf L b) := by simp [evalV, h, h2]
theorem exprOk_iff (o a b : Int) : exprOk o a b = true ↔ (1 ≤ o ∧ o ≤ 7) ∧ opndOk a = true ∧ opndOk b = true := by simp [exprOk, opOk]

theorem ev1 (A B : Int) : evalOf 1 A B = sat (sat A + sat B) := by simp [evalOf]
theorem ev2 (A B : Int) : evalOf 2 A B = sat (sat A - sat B) := by simp [evalOf]
theorem ev3 (A B : Int) : evalOf 3 A B = sat (sat A * sat B) := by simp [evalOf]
theorem ev4 (A B : Int) : evalOf 4 A B = min A B := by simp [evalOf]
theorem ev5 (A B : Int) : evalOf 5 A B = max A B := by simp [evalOf]
theorem ev6 (A B : Int) : evalOf 6 A B = bit (decide (A < B)) := by simp [evalOf]
theorem ev7 (A B : Int) : evalOf 7 A B = bit (decide (A = B)) := by simp [evalOf]
section model
end model

section program
end program
end Go.Proofs.Ytodlbbojjnkneaa.expr

/- The value of an expression is a value. Plain mathematics. -/
namespace Go.Proofs.Ytodlbbojjnkneaa.expr
open Go.ChangeShapes Go.WideShapes Go.ChangeAt Go.RowKit Go.Proofs.Ytodlbbojjnkneaa.row Go.Proofs.Ytodlbbojjnkneaa.val

theorem sat_val (n : Int) : isVal (sat n) = true := isVal_in (sat_bd n).1 (sat_bd n).2
theorem bit_val (b : Bool) : isVal (bit b) = true := by cases b <;> rfl
theorem valOf_val {L : List Int} (h : varsOk L = true) {m : Int} (hm : opndOk m = true) : isVal (valOf L m) = true := by
  have hb := (opndOk_iff m).1 hm
  unfold valOf
  split
  · rename_i h0
    obtain ⟨h1, _⟩ := opnd_at h hm h0
    rw [List.getD_eq_getElem?_getD, List.getElem?_eq_getElem h1]
    exact ((varsOk_iff L).1 h).2 _ (List.getElem_mem h1)
  · exact isVal_in (by omega) (by omega)
theorem evalOf_val {o A B : Int} (hA : isVal A = true) (hB : isVal B = true) : isVal (evalOf o A B) = true := by
  have a := (isVal_iff A).1 hA
  have b := (isVal_iff B).1 hB
  unfold evalOf
  split
  · exact sat_val _
  split
  · exact sat_val _
  split
  · exact sat_val _
  split
  · exact isVal_in (by omega) (by omega)
  split
  · exact isVal_in (by omega) (by omega)
  split
  · exact bit_val _
  · exact bit_val _
theorem evalV_val (L : List Int) (o a b : Int) : isVal (evalV L o a b) = true := by
  unfold evalV
  split
  · rename_i h
    rw [Bool.and_eq_true] at h
    obtain ⟨_, ha, hb⟩ := (exprOk_iff o a b).1 h.2
    exact evalOf_val (valOf_val h.1 ha) (valOf_val h.1 hb)
  · rfl
end Go.Proofs.Ytodlbbojjnkneaa.expr
