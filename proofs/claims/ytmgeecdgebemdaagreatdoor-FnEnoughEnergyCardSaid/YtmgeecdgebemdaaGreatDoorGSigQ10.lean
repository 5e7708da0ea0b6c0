/- Several texts in one: QStmU QBlkF. -/
import Derived.Test.YtmgeecdgebemdaaGreatDoorGSigQ9
import Derived.Test.YtmgeecdgebemdaaGreatDoorGSigQ7

/- Chapter 4's StmtOk of the program: what the plain function says, for every statement; nothing that was there is written. -/
namespace Go.Proofs.YtmgeecdgebemdaaGreatDoor.stm
open Go.ChangeShapes Go.WideShapes Go.ChangeAt Go.RowKit Go.Proofs.YtmgeecdgebemdaaGreatDoor.row Go.Proofs.YtmgeecdgebemdaaGreatDoor.val Go.Proofs.YtmgeecdgebemdaaGreatDoor.expr
set_option maxHeartbeats 2000000 in
theorem valid1y (v o a b : Int) (w : World) : Calls Tryz.prog 185 #[stV ⟨1, v, 0, o, a, b⟩] w (BelO w (if1 v o a b) (varOk v && exprOk o a b)) := by
  generalize hr : (varOk v && exprOk o a b) = r
  have HR := Lib.hid hr
  have hq : ∀ w, (Op.equalIn 10000 112 (stV ⟨1, v, 0, o, a, b⟩) (stV ⟨1, v, 0, o, a, b⟩)).run Tryz.prog w = .ok true w := fun w => by rw [run_eqSt]; simp [eqSt]
  have hm := meth1 v o a b
  have hx := Box.new w #[.int .i64 1, .int .i64 v, .int .i64 0, .int .i64 o, .int .i64 a, .int .i64 b] 112
  clear hr
  go_enter Tryz.func185, Tryz.ntmps185
  go_wp2_with (go_at_call 222; refine (of1 v 0 o a b _).mono ?_; rintro e w1 ⟨rfl, hb1⟩)
  have hcs : w1.cell? ⟨w.heap.size, 0, none⟩ = some (.int .i64 1) ∧ w1.cell? ⟨w.heap.size, 1, none⟩ = some (.int .i64 v) ∧ w1.cell? ⟨w.heap.size, 2, none⟩ = some (.int .i64 0) ∧ w1.cell? ⟨w.heap.size, 3, none⟩ = some (.int .i64 o) ∧ w1.cell? ⟨w.heap.size, 4, none⟩ = some (.int .i64 a) ∧ w1.cell? ⟨w.heap.size, 5, none⟩ = some (.int .i64 b) := by
    have hx1 := hx.below hb1
    exact ⟨hx1.cell 0, hx1.cell 1, hx1.cell 2, hx1.cell 3, hx1.cell 4, hx1.cell 5⟩
  have hlt := (hx.below hb1).lt
  have HB := Lib.hid (below_then (below_new w _) hb1)
  clear hx hb1
  go_region_held3 (fun w' => w'.cell? ⟨w.heap.size, 0, none⟩ = some (.int .i64 1) ∧ w'.cell? ⟨w.heap.size, 1, none⟩ = some (.int .i64 v) ∧ w'.cell? ⟨w.heap.size, 2, none⟩ = some (.int .i64 0) ∧ w'.cell? ⟨w.heap.size, 3, none⟩ = some (.int .i64 o) ∧ w'.cell? ⟨w.heap.size, 4, none⟩ = some (.int .i64 a) ∧ w'.cell? ⟨w.heap.size, 5, none⟩ = some (.int .i64 b))
    (first | go_keep | (exact held6 (by assumption) (by assumption) (by assumption)))
    (first
      | (go_at_call 282; refine (stmt_m1 v o a b _).mono ?_; rintro e w2 ⟨rfl, hb2⟩; have hb2' := drew_below hb2; have hlt2 := Nat.lt_of_lt_of_le hlt hb2'.size)
      | (go_at_call 223; refine (fields1 v o a b _ HR.out _).mono ?_; rintro e w3 ⟨rfl, hb3⟩))
  have HB2 := Lib.hid (below_then HB.out (below_then (drew_below hb2) hb3))
  clear hb2 hb3 hb2'
  all_goals cases r
  all_goals
    go_wp2
    go_ret2
    exact ⟨rfl, HB2.out⟩
set_option maxHeartbeats 2000000 in
theorem valid2y (v n : Int) (w : World) : Calls Tryz.prog 185 #[stV ⟨2, v, n, 0, 0, 0⟩] w (BelO w (if2 v n) (varOk v && (decide (0 ≤ n) && decide (n ≤ 3)))) := by
  generalize hr : (varOk v && (decide (0 ≤ n) && decide (n ≤ 3))) = r
  have HR := Lib.hid hr
  have hq : ∀ w, (Op.equalIn 10000 112 (stV ⟨2, v, n, 0, 0, 0⟩) (stV ⟨2, v, n, 0, 0, 0⟩)).run Tryz.prog w = .ok true w := fun w => by rw [run_eqSt]; simp [eqSt]
  have hm := meth2 v n
  have hx := Box.new w #[.int .i64 2, .int .i64 v, .int .i64 n, .int .i64 0, .int .i64 0, .int .i64 0] 112
  clear hr
  go_enter Tryz.func185, Tryz.ntmps185
  go_wp2_with (go_at_call 222; refine (of2 v n 0 0 0 _).mono ?_; rintro e w1 ⟨rfl, hb1⟩)
  have hcs : w1.cell? ⟨w.heap.size, 0, none⟩ = some (.int .i64 2) ∧ w1.cell? ⟨w.heap.size, 1, none⟩ = some (.int .i64 v) ∧ w1.cell? ⟨w.heap.size, 2, none⟩ = some (.int .i64 n) ∧ w1.cell? ⟨w.heap.size, 3, none⟩ = some (.int .i64 0) ∧ w1.cell? ⟨w.heap.size, 4, none⟩ = some (.int .i64 0) ∧ w1.cell? ⟨w.heap.size, 5, none⟩ = some (.int .i64 0) := by
    have hx1 := hx.below hb1
    exact ⟨hx1.cell 0, hx1.cell 1, hx1.cell 2, hx1.cell 3, hx1.cell 4, hx1.cell 5⟩
  have hlt := (hx.below hb1).lt
  have HB := Lib.hid (below_then (below_new w _) hb1)
  clear hx hb1
  go_region_held3 (fun w' => w'.cell? ⟨w.heap.size, 0, none⟩ = some (.int .i64 2) ∧ w'.cell? ⟨w.heap.size, 1, none⟩ = some (.int .i64 v) ∧ w'.cell? ⟨w.heap.size, 2, none⟩ = some (.int .i64 n) ∧ w'.cell? ⟨w.heap.size, 3, none⟩ = some (.int .i64 0) ∧ w'.cell? ⟨w.heap.size, 4, none⟩ = some (.int .i64 0) ∧ w'.cell? ⟨w.heap.size, 5, none⟩ = some (.int .i64 0))
    (first | go_keep | (exact held6 (by assumption) (by assumption) (by assumption)))
    (first
      | (go_at_call 283; refine (stmt_m2 v n _).mono ?_; rintro e w2 ⟨rfl, hb2⟩; have hb2' := drew_below hb2; have hlt2 := Nat.lt_of_lt_of_le hlt hb2'.size)
      | (go_at_call 223; refine (fields2 v n _ HR.out _).mono ?_; rintro e w3 ⟨rfl, hb3⟩))
  have HB2 := Lib.hid (below_then HB.out (below_then (drew_below hb2) hb3))
  clear hb2 hb3 hb2'
  all_goals cases r
  all_goals
    go_wp2
    go_ret2
    exact ⟨rfl, HB2.out⟩
set_option maxHeartbeats 2000000 in
theorem valid3y (o a b : Int) (w : World) : Calls Tryz.prog 185 #[stV ⟨3, 0, 0, o, a, b⟩] w (BelO w (if3 o a b) (exprOk o a b)) := by
  generalize hr : (exprOk o a b) = r
  have HR := Lib.hid hr
  have hq : ∀ w, (Op.equalIn 10000 112 (stV ⟨3, 0, 0, o, a, b⟩) (stV ⟨3, 0, 0, o, a, b⟩)).run Tryz.prog w = .ok true w := fun w => by rw [run_eqSt]; simp [eqSt]
  have hm := meth3 o a b
  have hx := Box.new w #[.int .i64 3, .int .i64 0, .int .i64 0, .int .i64 o, .int .i64 a, .int .i64 b] 112
  clear hr
  go_enter Tryz.func185, Tryz.ntmps185
  go_wp2_with (go_at_call 222; refine (of3 0 0 o a b _).mono ?_; rintro e w1 ⟨rfl, hb1⟩)
  have hcs : w1.cell? ⟨w.heap.size, 0, none⟩ = some (.int .i64 3) ∧ w1.cell? ⟨w.heap.size, 1, none⟩ = some (.int .i64 0) ∧ w1.cell? ⟨w.heap.size, 2, none⟩ = some (.int .i64 0) ∧ w1.cell? ⟨w.heap.size, 3, none⟩ = some (.int .i64 o) ∧ w1.cell? ⟨w.heap.size, 4, none⟩ = some (.int .i64 a) ∧ w1.cell? ⟨w.heap.size, 5, none⟩ = some (.int .i64 b) := by
    have hx1 := hx.below hb1
    exact ⟨hx1.cell 0, hx1.cell 1, hx1.cell 2, hx1.cell 3, hx1.cell 4, hx1.cell 5⟩
  have hlt := (hx.below hb1).lt
  have HB := Lib.hid (below_then (below_new w _) hb1)
  clear hx hb1
  go_region_held3 (fun w' => w'.cell? ⟨w.heap.size, 0, none⟩ = some (.int .i64 3) ∧ w'.cell? ⟨w.heap.size, 1, none⟩ = some (.int .i64 0) ∧ w'.cell? ⟨w.heap.size, 2, none⟩ = some (.int .i64 0) ∧ w'.cell? ⟨w.heap.size, 3, none⟩ = some (.int .i64 o) ∧ w'.cell? ⟨w.heap.size, 4, none⟩ = some (.int .i64 a) ∧ w'.cell? ⟨w.heap.size, 5, none⟩ = some (.int .i64 b))
    (first | go_keep | (exact held6 (by assumption) (by assumption) (by assumption)))
    (first
      | (go_at_call 284; refine (stmt_m3 o a b _).mono ?_; rintro e w2 ⟨rfl, hb2⟩; have hb2' := drew_below hb2; have hlt2 := Nat.lt_of_lt_of_le hlt hb2'.size)
      | (go_at_call 223; refine (fields3 o a b _ HR.out _).mono ?_; rintro e w3 ⟨rfl, hb3⟩))
  have HB2 := Lib.hid (below_then HB.out (below_then (drew_below hb2) hb3))
  clear hb2 hb3 hb2'
  all_goals cases r
  all_goals
    go_wp2
    go_ret2
    exact ⟨rfl, HB2.out⟩
set_option maxHeartbeats 2000000 in
theorem valid4y (o a b : Int) (w : World) : Calls Tryz.prog 185 #[stV ⟨4, 0, 0, o, a, b⟩] w (BelO w (if4 o a b) (exprOk o a b)) := by
  generalize hr : (exprOk o a b) = r
  have HR := Lib.hid hr
  have hq : ∀ w, (Op.equalIn 10000 112 (stV ⟨4, 0, 0, o, a, b⟩) (stV ⟨4, 0, 0, o, a, b⟩)).run Tryz.prog w = .ok true w := fun w => by rw [run_eqSt]; simp [eqSt]
  have hm := meth4 o a b
  have hx := Box.new w #[.int .i64 4, .int .i64 0, .int .i64 0, .int .i64 o, .int .i64 a, .int .i64 b] 112
  clear hr
  go_enter Tryz.func185, Tryz.ntmps185
  go_wp2_with (go_at_call 222; refine (of4 0 0 o a b _).mono ?_; rintro e w1 ⟨rfl, hb1⟩)
  have hcs : w1.cell? ⟨w.heap.size, 0, none⟩ = some (.int .i64 4) ∧ w1.cell? ⟨w.heap.size, 1, none⟩ = some (.int .i64 0) ∧ w1.cell? ⟨w.heap.size, 2, none⟩ = some (.int .i64 0) ∧ w1.cell? ⟨w.heap.size, 3, none⟩ = some (.int .i64 o) ∧ w1.cell? ⟨w.heap.size, 4, none⟩ = some (.int .i64 a) ∧ w1.cell? ⟨w.heap.size, 5, none⟩ = some (.int .i64 b) := by
    have hx1 := hx.below hb1
    exact ⟨hx1.cell 0, hx1.cell 1, hx1.cell 2, hx1.cell 3, hx1.cell 4, hx1.cell 5⟩
  have hlt := (hx.below hb1).lt
  have HB := Lib.hid (below_then (below_new w _) hb1)
  clear hx hb1
  go_region_held3 (fun w' => w'.cell? ⟨w.heap.size, 0, none⟩ = some (.int .i64 4) ∧ w'.cell? ⟨w.heap.size, 1, none⟩ = some (.int .i64 0) ∧ w'.cell? ⟨w.heap.size, 2, none⟩ = some (.int .i64 0) ∧ w'.cell? ⟨w.heap.size, 3, none⟩ = some (.int .i64 o) ∧ w'.cell? ⟨w.heap.size, 4, none⟩ = some (.int .i64 a) ∧ w'.cell? ⟨w.heap.size, 5, none⟩ = some (.int .i64 b))
    (first | go_keep | (exact held6 (by assumption) (by assumption) (by assumption)))
    (first
      | (go_at_call 285; refine (stmt_m4 o a b _).mono ?_; rintro e w2 ⟨rfl, hb2⟩; have hb2' := drew_below hb2; have hlt2 := Nat.lt_of_lt_of_le hlt hb2'.size)
      | (go_at_call 223; refine (fields4 o a b _ HR.out _).mono ?_; rintro e w3 ⟨rfl, hb3⟩))
  have HB2 := Lib.hid (below_then HB.out (below_then (drew_below hb2) hb3))
  clear hb2 hb3 hb2'
  all_goals cases r
  all_goals
    go_wp2
    go_ret2
    exact ⟨rfl, HB2.out⟩
set_option maxHeartbeats 2000000 in
theorem valid5y (n : Int) (w : World) : Calls Tryz.prog 185 #[stV ⟨5, 0, n, 0, 0, 0⟩] w (BelO w (if5 n) (decide (1 ≤ n) && decide (n ≤ 5))) := by
  generalize hr : (decide (1 ≤ n) && decide (n ≤ 5)) = r
  have HR := Lib.hid hr
  have hq : ∀ w, (Op.equalIn 10000 112 (stV ⟨5, 0, n, 0, 0, 0⟩) (stV ⟨5, 0, n, 0, 0, 0⟩)).run Tryz.prog w = .ok true w := fun w => by rw [run_eqSt]; simp [eqSt]
  have hm := meth5 n
  have hx := Box.new w #[.int .i64 5, .int .i64 0, .int .i64 n, .int .i64 0, .int .i64 0, .int .i64 0] 112
  clear hr
  go_enter Tryz.func185, Tryz.ntmps185
  go_wp2_with (go_at_call 222; refine (of5 0 n 0 0 0 _).mono ?_; rintro e w1 ⟨rfl, hb1⟩)
  have hcs : w1.cell? ⟨w.heap.size, 0, none⟩ = some (.int .i64 5) ∧ w1.cell? ⟨w.heap.size, 1, none⟩ = some (.int .i64 0) ∧ w1.cell? ⟨w.heap.size, 2, none⟩ = some (.int .i64 n) ∧ w1.cell? ⟨w.heap.size, 3, none⟩ = some (.int .i64 0) ∧ w1.cell? ⟨w.heap.size, 4, none⟩ = some (.int .i64 0) ∧ w1.cell? ⟨w.heap.size, 5, none⟩ = some (.int .i64 0) := by
    have hx1 := hx.below hb1
    exact ⟨hx1.cell 0, hx1.cell 1, hx1.cell 2, hx1.cell 3, hx1.cell 4, hx1.cell 5⟩
  have hlt := (hx.below hb1).lt
  have HB := Lib.hid (below_then (below_new w _) hb1)
  clear hx hb1
  go_region_held3 (fun w' => w'.cell? ⟨w.heap.size, 0, none⟩ = some (.int .i64 5) ∧ w'.cell? ⟨w.heap.size, 1, none⟩ = some (.int .i64 0) ∧ w'.cell? ⟨w.heap.size, 2, none⟩ = some (.int .i64 n) ∧ w'.cell? ⟨w.heap.size, 3, none⟩ = some (.int .i64 0) ∧ w'.cell? ⟨w.heap.size, 4, none⟩ = some (.int .i64 0) ∧ w'.cell? ⟨w.heap.size, 5, none⟩ = some (.int .i64 0))
    (first | go_keep | (exact held6 (by assumption) (by assumption) (by assumption)))
    (first
      | (go_at_call 286; refine (stmt_m5 n _).mono ?_; rintro e w2 ⟨rfl, hb2⟩; have hb2' := drew_below hb2; have hlt2 := Nat.lt_of_lt_of_le hlt hb2'.size)
      | (go_at_call 223; refine (fields5 n _ HR.out _).mono ?_; rintro e w3 ⟨rfl, hb3⟩))
  have HB2 := Lib.hid (below_then HB.out (below_then (drew_below hb2) hb3))
  clear hb2 hb3 hb2'
  all_goals cases r
  all_goals
    go_wp2
    go_ret2
    exact ⟨rfl, HB2.out⟩
set_option maxHeartbeats 2000000 in
theorem valid6y (w : World) : Calls Tryz.prog 185 #[stV ⟨6, 0, 0, 0, 0, 0⟩] w (BelO w (if6 ) (true)) := by
  have hq : ∀ w, (Op.equalIn 10000 112 (stV ⟨6, 0, 0, 0, 0, 0⟩) (stV ⟨6, 0, 0, 0, 0, 0⟩)).run Tryz.prog w = .ok true w := fun w => by rw [run_eqSt]; simp [eqSt]
  have hm := meth6 
  have hx := Box.new w #[.int .i64 6, .int .i64 0, .int .i64 0, .int .i64 0, .int .i64 0, .int .i64 0] 112
  go_enter Tryz.func185, Tryz.ntmps185
  go_wp2_with (go_at_call 222; refine (of6 0 0 0 0 0 _).mono ?_; rintro e w1 ⟨rfl, hb1⟩)
  have hcs : w1.cell? ⟨w.heap.size, 0, none⟩ = some (.int .i64 6) ∧ w1.cell? ⟨w.heap.size, 1, none⟩ = some (.int .i64 0) ∧ w1.cell? ⟨w.heap.size, 2, none⟩ = some (.int .i64 0) ∧ w1.cell? ⟨w.heap.size, 3, none⟩ = some (.int .i64 0) ∧ w1.cell? ⟨w.heap.size, 4, none⟩ = some (.int .i64 0) ∧ w1.cell? ⟨w.heap.size, 5, none⟩ = some (.int .i64 0) := by
    have hx1 := hx.below hb1
    exact ⟨hx1.cell 0, hx1.cell 1, hx1.cell 2, hx1.cell 3, hx1.cell 4, hx1.cell 5⟩
  have hlt := (hx.below hb1).lt
  have HB := Lib.hid (below_then (below_new w _) hb1)
  clear hx hb1
  go_region_held3 (fun w' => w'.cell? ⟨w.heap.size, 0, none⟩ = some (.int .i64 6) ∧ w'.cell? ⟨w.heap.size, 1, none⟩ = some (.int .i64 0) ∧ w'.cell? ⟨w.heap.size, 2, none⟩ = some (.int .i64 0) ∧ w'.cell? ⟨w.heap.size, 3, none⟩ = some (.int .i64 0) ∧ w'.cell? ⟨w.heap.size, 4, none⟩ = some (.int .i64 0) ∧ w'.cell? ⟨w.heap.size, 5, none⟩ = some (.int .i64 0))
    (first | go_keep | (exact held6 (by assumption) (by assumption) (by assumption)))
    (first
      | (go_at_call 287; refine (stmt_m6  _).mono ?_; rintro e w2 ⟨rfl, hb2⟩; have hb2' := drew_below hb2; have hlt2 := Nat.lt_of_lt_of_le hlt hb2'.size)
      | (go_at_call 223; refine (fields6  _ rfl _).mono ?_; rintro e w3 ⟨rfl, hb3⟩))
  have HB2 := Lib.hid (below_then HB.out (below_then (drew_below hb2) hb3))
  clear hb2 hb3 hb2'
  all_goals
    go_wp2
    go_ret2
    exact ⟨rfl, HB2.out⟩
/-- A statement as a value of its own type. -/
def ifSt (s : St) : Value :=
  if s.k = 1 then if1 s.v s.o s.a s.b else if s.k = 2 then if2 s.v s.n else if s.k = 3 then if3 s.o s.a s.b else if s.k = 4 then if4 s.o s.a s.b else if s.k = 5 then if5 s.n else if s.k = 6 then if6 else .nilIface
theorem eqSt_symm (s t : St) : eqSt s t = eqSt t s := by rw [Bool.eq_iff_iff]; simp [eqSt, eq_comm]
theorem valid_any (s : St) (w : World) : Calls Tryz.prog 185 #[stV s] w (BelO w (ifSt s) (stOk s)) := by
  obtain ⟨k, v, n, o, a, b⟩ := s
  rcases kinds k with rfl | rfl | rfl | rfl | rfl | rfl | ⟨h1, h2, h3, h4, h5, h6⟩
  · cases hqb : eqSt ⟨1, v, 0, o, a, b⟩ ⟨1, v, n, o, a, b⟩
    · have hn : stOk ⟨1, v, n, o, a, b⟩ = false := not_plain (t := ⟨1, v, 0, o, a, b⟩) rfl (by rw [eqSt_symm]; exact hqb)
      rw [hn]; exact valid1n v n o a b hqb w
    · obtain rfl : 0 = n := by simpa [eqSt] using hqb
      rw [stOk1]; exact valid1y v o a b w
  · cases hqb : eqSt ⟨2, v, n, 0, 0, 0⟩ ⟨2, v, n, o, a, b⟩
    · have hn : stOk ⟨2, v, n, o, a, b⟩ = false := not_plain (t := ⟨2, v, n, 0, 0, 0⟩) rfl (by rw [eqSt_symm]; exact hqb)
      rw [hn]; exact valid2n v n o a b hqb w
    · obtain ⟨rfl, rfl, rfl⟩ : 0 = o ∧ 0 = a ∧ 0 = b := by simpa [eqSt] using hqb
      rw [stOk2]; exact valid2y v n w
  · cases hqb : eqSt ⟨3, 0, 0, o, a, b⟩ ⟨3, v, n, o, a, b⟩
    · have hn : stOk ⟨3, v, n, o, a, b⟩ = false := not_plain (t := ⟨3, 0, 0, o, a, b⟩) rfl (by rw [eqSt_symm]; exact hqb)
      rw [hn]; exact valid3n v n o a b hqb w
    · obtain ⟨rfl, rfl⟩ : 0 = v ∧ 0 = n := by simpa [eqSt] using hqb
      rw [stOk3]; exact valid3y o a b w
  · cases hqb : eqSt ⟨4, 0, 0, o, a, b⟩ ⟨4, v, n, o, a, b⟩
    · have hn : stOk ⟨4, v, n, o, a, b⟩ = false := not_plain (t := ⟨4, 0, 0, o, a, b⟩) rfl (by rw [eqSt_symm]; exact hqb)
      rw [hn]; exact valid4n v n o a b hqb w
    · obtain ⟨rfl, rfl⟩ : 0 = v ∧ 0 = n := by simpa [eqSt] using hqb
      rw [stOk4]; exact valid4y o a b w
  · cases hqb : eqSt ⟨5, 0, n, 0, 0, 0⟩ ⟨5, v, n, o, a, b⟩
    · have hn : stOk ⟨5, v, n, o, a, b⟩ = false := not_plain (t := ⟨5, 0, n, 0, 0, 0⟩) rfl (by rw [eqSt_symm]; exact hqb)
      rw [hn]; exact valid5n v n o a b hqb w
    · obtain ⟨rfl, rfl, rfl, rfl⟩ : 0 = v ∧ 0 = o ∧ 0 = a ∧ 0 = b := by simpa [eqSt] using hqb
      rw [stOk5]; exact valid5y n w
  · cases hqb : eqSt ⟨6, 0, 0, 0, 0, 0⟩ ⟨6, v, n, o, a, b⟩
    · have hn : stOk ⟨6, v, n, o, a, b⟩ = false := not_plain (t := ⟨6, 0, 0, 0, 0, 0⟩) rfl (by rw [eqSt_symm]; exact hqb)
      rw [hn]; exact valid6n v n o a b hqb w
    · obtain ⟨rfl, rfl, rfl, rfl, rfl⟩ : 0 = v ∧ 0 = n ∧ 0 = o ∧ 0 = a ∧ 0 = b := by simpa [eqSt] using hqb
      rw [stOk6]; exact valid6y  w
  · rw [stOk_other h1 h2 h3 h4 h5 h6]; exact valid7 k v n o a b h1 h2 h3 h4 h5 h6 w
theorem impl_stmtok (s : St) (r : Bool) (hr : stOk s = r) (w : World) : Calls Tryz.prog 141 #[stV s] w (BelB w r) := by
  subst hr
  have H := Lib.hid (valid_any s)
  go_enter Tryz.func141, Tryz.ntmps141
  go_wp2_with (go_at_call 185; refine (H.out _).mono ?_; rintro e w1 ⟨rfl, hb1⟩)
  have HB := Lib.hid (below_then (below_new w _) hb1)
  clear hb1
  go_wp2
  go_ret
  exact ⟨rfl, HB.out⟩
end Go.Proofs.YtmgeecdgebemdaaGreatDoor.stm

/- Chapter 5's program: what a statement adds to the height, whether it opens, BlockOk: what the plain relations say; nothing that was there is written. -/
namespace Go.Proofs.YtmgeecdgebemdaaGreatDoor.blk
open Go Go.ChangeShapes Go.WideShapes Go.ChangeAt Go.RowKit Go.Proofs.YtmgeecdgebemdaaGreatDoor.row Go.Proofs.YtmgeecdgebemdaaGreatDoor.val Go.Proofs.YtmgeecdgebemdaaGreatDoor.expr Go.Proofs.YtmgeecdgebemdaaGreatDoor.stm
theorem dlt_range (s : Go.Proofs.YtmgeecdgebemdaaGreatDoor.stm.St) : -1 ≤ dlt s ∧ dlt s ≤ 1 := by rcases dlt_cases s with ⟨_, _, h⟩ | ⟨_, _, h⟩ | ⟨_, _, h⟩ <;> omega
theorem impl_delta (s : Go.Proofs.YtmgeecdgebemdaaGreatDoor.stm.St) (d : Int) (hd : dlt s = d) (w : World) : Calls Tryz.prog 200 #[stV s] w (BelI w d) := by
  subst hd
  by_cases h4 : s.k = 4
  · have HE := Lib.hid (show dlt s = 1 from by unfold dlt; rw [if_pos (.inl h4)])
    have hq : (s.k == 4) = true := by rw [h4]; rfl
    clear h4
    go_enter Tryz.func200, Tryz.ntmps200
    go_wp2
    go_ret
    exact ⟨by rw [HE.out]; rfl, below_new w _⟩
  · have hq : (s.k == 4) = false := by rw [beq_eq_false_iff_ne]; exact h4
    by_cases h5 : s.k = 5
    · have HE := Lib.hid (show dlt s = 1 from by unfold dlt; rw [if_pos (.inr h5)])
      have hq5 : (s.k == 5) = true := by rw [h5]; rfl
      clear h4 h5
      go_enter Tryz.func200, Tryz.ntmps200
      go_wp2
      go_ret
      exact ⟨by rw [HE.out]; rfl, below_new w _⟩
    · have hq5 : (s.k == 5) = false := by rw [beq_eq_false_iff_ne]; exact h5
      by_cases h6 : s.k = 6
      · have HE := Lib.hid (show dlt s = -1 from by unfold dlt; rw [if_neg (by omega), if_pos h6])
        have hq6 : (s.k == 6) = true := by rw [h6]; rfl
        clear h4 h5 h6
        go_enter Tryz.func200, Tryz.ntmps200
        go_wp2
        go_ret
        exact ⟨by rw [HE.out]; rfl, below_new w _⟩
      · have HE := Lib.hid (show dlt s = 0 from by unfold dlt; rw [if_neg (by omega), if_neg h6])
        have hq6 : (s.k == 6) = false := by rw [beq_eq_false_iff_ne]; exact h6
        clear h4 h5 h6
        go_enter Tryz.func200, Tryz.ntmps200
        go_wp2
        go_ret
        exact ⟨by rw [HE.out]; rfl, below_new w _⟩
theorem impl_hasbody (s : Go.Proofs.YtmgeecdgebemdaaGreatDoor.stm.St) (r : Bool) (hr : opn s = r) (w : World) : Calls Tryz.prog 188 #[stV s] w (BelB w r) := by
  subst hr
  rcases dlt_cases s with ⟨ho, hk, hd⟩ | ⟨ho, hk, hd⟩ | ⟨ho, hk, hd⟩
  all_goals
    have HD := Lib.hid hd
    have HO := Lib.hid ho
    clear hd ho hk
    go_enter Tryz.func188, Tryz.ntmps188
    go_wp2_with (go_at_call 200; (with_reducible refine (impl_delta s _ HD.out _).mono ?_); rintro e w2 ⟨rfl, hb2⟩)
    have HB := Lib.hid (below_then (below_new w _) hb2)
    clear hb2
    go_ret
    exact ⟨by rw [HO.out]; rfl, HB.out⟩
set_option maxHeartbeats 4000000 in
set_option maxRecDepth 100000 in
theorem impl_blockok (a : Option Addr) (n cap : Nat) (L : List Go.Proofs.YtmgeecdgebemdaaGreatDoor.stm.St) (hn : (n : Int) ≤ 1048576) (w : World) (h : StRow w a n L) (r : Bool) (hr : r = true ↔ IsBlk L) :
    Calls Tryz.prog 157 #[.slice a n cap] w (BelB w r) := by
  have HL := Lib.hid h
  have HR := Lib.hid hr
  have hlen := h.1
  by_cases h24 : (24 : Int) < n
  · have hrf : r = false := by rw [← Bool.not_eq_true]; intro e; have := (hr.1 e).2.2; omega
    clear h hr hlen
    subst hrf
    go_enter Tryz.func157, Tryz.ntmps157
    go_wp2
    go_ret
    exact ⟨rfl, Below.refl _ _⟩
  · have HLN := Lib.hid hlen
    have h24n : n ≤ 24 := by omega
    clear h hr hlen
    go_enter Tryz.func157, Tryz.ntmps157
    go_wp2
    go_loopw [3, 11] (fun o i wr => ∃ (k : Nat) (x : Int), k ≤ n ∧ i = .int .i64 k ∧ o = .int .i64 x ∧ 0 ≤ x ∧ x ≤ 3 ∧ Hid (x = hAt L k) ∧ Hid (OkTo L k) ∧ Below w.heap.size w wr) (fun _ i _ => n - (intOf i).toNat)
    case atStart => exact ⟨0, 0, Nat.zero_le _, rfl, rfl, by omega, by omega, rfl, okTo_zero L, Below.refl _ _⟩
    case round =>
      obtain ⟨k, x, hk, rfl, rfl, hx0, hx3, hH, hO, hbel⟩ := hrel
      by_cases hlt : k < n
      · obtain ⟨b, off, s, rfl, hlb, hs, hrg⟩ := (HL.out.below hbel).2 k hlt
        have HS := Lib.hid (And.intro hrg (And.intro hs hbel))
        have hI : (k : Int) < n := by omega
        have HX := Lib.hid (And.intro (Box.new wr #[.int .i64 0, .int .i64 0, .int .i64 0, .int .i64 0, .int .i64 0, .int .i64 0] 112) (hbel.alloc hbel.size (.cells #[.int .i64 0, .int .i64 0, .int .i64 0, .int .i64 0, .int .i64 0, .int .i64 0] 112)))
        have hsz := hbel.size
        have hnx := hAt_succ hs
        have hdr := dlt_range s
        obtain ⟨d, hd⟩ : ∃ d, dlt s = d := ⟨_, rfl⟩
        rw [hd] at hnx hdr
        rw [← hH.out] at hnx
        have hd0 := hdr.1
        have hd1 := hdr.2
        have HD := Lib.hid hd
        have HN := Lib.hid hnx
        clear hrg hs hbel hnx hdr hd
        go_wp2_with (first
          | (refine wpList_load_mid rfl 112 _ rfl b (off + k * 6) rfl (stC s) _ HS.out.1 Tryz.underlying112 rfl (by kernel_rfl) ?_)
          | ((refine wpList_store_box rfl 112 _ _ rfl wr.heap.size _ _ HX.out.1 #[.int .i64 s.k, .int .i64 s.v, .int .i64 s.n, .int .i64 s.o, .int .i64 s.a, .int .i64 s.b] rfl rfl rfl (by kernel_rfl) (by simp [Value.oneCell']) ?_); intro w1 hx1 hg1; refine Hid.out ?_))
        have H1 := Lib.hid (And.intro hx1 (HX.out.2.grown hg1 HX.out.2.size (fun j hj => by cases hj; exact hsz)))
        clear hx1 hg1
        refine Lib.hid ?_
        go_wp2_with (first
          | (refine wpList_load_row rfl 112 _ rfl wr.heap.size rfl _ _ _ _ H1.out.1 Tryz.underlying112 rfl (by kernel_rfl) ?_)
          | (go_at_call 200; (with_reducible refine (impl_delta s d HD.out _).mono ?_); rintro e w2 ⟨rfl, hb2⟩; refine Hid.out ?_))
        have H2 := Lib.hid (And.intro (H1.out.1.below hb2) (below_then H1.out.2 hb2))
        clear hb2
        cases hst : stOk s
        · have hrf : r = false := by
            rw [← Bool.not_eq_true]; intro e; exact not_blk_at HS.out.2.1 (.inl hst) (HR.out.1 e)
          have HST := Lib.hid hst
          clear hst
          subst hrf
          refine Lib.hid ?_
          go_wp2_with (first
            | (refine wpList_load_row rfl 112 _ rfl wr.heap.size rfl _ _ _ _ H2.out.1 Tryz.underlying112 rfl (by kernel_rfl) ?_)
            | (go_at_call 141; (with_reducible refine (impl_stmtok s false HST.out _).mono ?_); rintro e w3 ⟨rfl, hb3⟩))
          go_ret
          exact ⟨rfl, below_then H2.out.2 hb3⟩
        · have HST := Lib.hid hst
          clear hst
          rcases (show x + d < 0 ∨ (0 ≤ x + d ∧ 3 < x + d) ∨ (0 ≤ x + d ∧ x + d ≤ 3) by omega) with hy | ⟨hy, hy3⟩ | ⟨hy, hy3⟩
          · have hrf : r = false := by
              rw [← Bool.not_eq_true]; intro e; exact not_blk_at HS.out.2.1 (.inr (by have := HN.out; omega)) (HR.out.1 e)
            subst hrf
            refine Lib.hid ?_
            go_wp2_with (first
              | (refine wpList_load_row rfl 112 _ rfl wr.heap.size rfl _ _ _ _ H2.out.1 Tryz.underlying112 rfl (by kernel_rfl) ?_)
              | (go_at_call 141; (with_reducible refine (impl_stmtok s true HST.out _).mono ?_); rintro e w3 ⟨rfl, hb3⟩))
            go_ret
            exact ⟨rfl, below_then H2.out.2 hb3⟩
          · have hrf : r = false := by
              rw [← Bool.not_eq_true]; intro e; exact not_blk_at HS.out.2.1 (.inr (by have := HN.out; omega)) (HR.out.1 e)
            have hy0 : ¬ x + d < 0 := by omega
            subst hrf
            refine Lib.hid ?_
            go_wp2_with (first
              | (refine wpList_load_row rfl 112 _ rfl wr.heap.size rfl _ _ _ _ H2.out.1 Tryz.underlying112 rfl (by kernel_rfl) ?_)
              | (go_at_call 141; (with_reducible refine (impl_stmtok s true HST.out _).mono ?_); rintro e w3 ⟨rfl, hb3⟩))
            go_ret
            exact ⟨rfl, below_then H2.out.2 hb3⟩
          · have hy0 : ¬ x + d < 0 := by omega
            have hy1 : ¬ 3 < x + d := by omega
            have HO2 := Lib.hid (okTo_succ hO.out HS.out.2.1 HST.out (by have := HN.out; omega) (by have := HN.out; omega))
            have HX2 := Lib.hid (show x + d = hAt L (k + 1) by have := HN.out; omega)
            refine Lib.hid ?_
            go_wp2_with (first
              | (refine wpList_load_row rfl 112 _ rfl wr.heap.size rfl _ _ _ _ H2.out.1 Tryz.underlying112 rfl (by kernel_rfl) ?_)
              | (go_at_call 141; (with_reducible refine (impl_stmtok s true HST.out _).mono ?_); rintro e w3 ⟨rfl, hb3⟩; refine Hid.out ?_))
            have HB3 := Lib.hid (below_then H2.out.2 hb3)
            clear hb3
            refine Lib.hid ?_
            go_wp2
            go_roundw
            case rel => exact ⟨k + 1, x + d, by omega, by go_num, rfl, hy, hy3, HX2, HO2, HB3.out⟩
            case measure => simp [intOf]; omega
      · obtain rfl : k = n := by omega
        have hI : ¬ (k : Int) < k := by omega
        have hlenk := HLN.out
        have hOK := hO.out
        have hHX := hH.out
        rcases (show x ≠ 0 ∨ x = 0 by omega) with hx | hx
        · have hrf : r = false := by
            rw [← Bool.not_eq_true]; intro e; have := (HR.out.1 e).2.1; rw [hlenk] at this; omega
          have hxb : (x == 0) = false := by rw [beq_eq_false_iff_ne]; exact hx
          have HB := Lib.hid hbel
          clear hOK hHX hbel hlenk
          subst hrf
          go_wp2
          go_ret
          exact ⟨rfl, HB.out⟩
        · have hrt : r = true := HR.out.2 ⟨by rw [hlenk]; exact hOK, by rw [hlenk]; omega, by omega⟩
          have HB := Lib.hid hbel
          clear hOK hHX hbel hlenk
          subst hrt hx
          go_wp2
          go_ret
          exact ⟨rfl, HB.out⟩
end Go.Proofs.YtmgeecdgebemdaaGreatDoor.blk
