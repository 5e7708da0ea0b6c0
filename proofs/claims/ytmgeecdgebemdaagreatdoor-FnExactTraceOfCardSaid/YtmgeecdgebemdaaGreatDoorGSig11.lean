/- Several texts in one: StmU ExeU. -/
import Derived.Test.YtmgeecdgebemdaaGreatDoorGSig10
import Derived.Test.YtmgeecdgebemdaaGreatDoorGSig9

/- Chapter 4's StmtOk of the program: what the plain function says, for every statement; nothing that was there is written. -/
namespace Go.Proofs.YtmgeecdgebemdaaGreatDoor.stm
open Go.ChangeShapes Go.WideShapes Go.ChangeAt Go.RowKit Go.Proofs.YtmgeecdgebemdaaGreatDoor.row Go.Proofs.YtmgeecdgebemdaaGreatDoor.val Go.Proofs.YtmgeecdgebemdaaGreatDoor.expr

set_option maxHeartbeats 2000000 in
theorem valid1y (v o a b : Int) (w : World) : Calls Tryz.prog 185 #[stV ⟨1, v, 0, o, a, b⟩] w (BelO w (if1 v o a b) (varOk v && exprOk o a b)) := by
  generalize hr : (varOk v && exprOk o a b) = r
  have HR := Lib.hid hr
  have hq : ∀ w, (Op.equalIn 10000 112 (stV ⟨1, v, 0, o, a, b⟩) (stV ⟨1, v, 0, o, a, b⟩)).run Tryz.prog w = .ok true w := fun w => by rw [run_eqSt]; simp [eqSt]
  have hm := meth1 v o a b
  have hx := Box.new w #[.int .i64 1, .int .i64 v, .int .i64 0, .int .i64 o, .int .i64 a, .int .i64 b] 112
  clear hr
  go_enter Tryz.func185, Tryz.ntmps185
  go_wp2_with (go_at_call 222; refine (of1 v 0 o a b _).mono ?_; rintro e w1 ⟨rfl, hb1⟩)
  have hcs : w1.cell? ⟨w.heap.size, 0, none⟩ = some (.int .i64 1) ∧ w1.cell? ⟨w.heap.size, 1, none⟩ = some (.int .i64 v) ∧ w1.cell? ⟨w.heap.size, 2, none⟩ = some (.int .i64 0) ∧ w1.cell? ⟨w.heap.size, 3, none⟩ = some (.int .i64 o) ∧ w1.cell? ⟨w.heap.size, 4, none⟩ = some (.int .i64 a) ∧ w1.cell? ⟨w.heap.size, 5, none⟩ = some (.int .i64 b) := by
    have hx1 := hx.below hb1
    exact ⟨hx1.cell 0, hx1.cell 1, hx1.cell 2, hx1.cell 3, hx1.cell 4, hx1.cell 5⟩
  have hlt := (hx.below hb1).lt
  have HB := Lib.hid (below_then (below_new w _) hb1)
  clear hx hb1
  go_region_held3 (fun w' => w'.cell? ⟨w.heap.size, 0, none⟩ = some (.int .i64 1) ∧ w'.cell? ⟨w.heap.size, 1, none⟩ = some (.int .i64 v) ∧ w'.cell? ⟨w.heap.size, 2, none⟩ = some (.int .i64 0) ∧ w'.cell? ⟨w.heap.size, 3, none⟩ = some (.int .i64 o) ∧ w'.cell? ⟨w.heap.size, 4, none⟩ = some (.int .i64 a) ∧ w'.cell? ⟨w.heap.size, 5, none⟩ = some (.int .i64 b))
    (first | go_keep | (exact held6 (by assumption) (by assumption) (by assumption)))
    (first
      | (go_at_call 282; refine (stmt_m1 v o a b _).mono ?_; rintro e w2 ⟨rfl, hb2⟩; have hb2' := drew_below hb2; have hlt2 := Nat.lt_of_lt_of_le hlt hb2'.size)
      | (go_at_call 223; refine (fields1 v o a b _ HR.out _).mono ?_; rintro e w3 ⟨rfl, hb3⟩))
  have HB2 := Lib.hid (below_then HB.out (below_then (drew_below hb2) hb3))
  clear hb2 hb3 hb2'
  all_goals cases r
  all_goals
    go_wp2
    go_ret2
    exact ⟨rfl, HB2.out⟩
set_option maxHeartbeats 2000000 in
theorem valid2y (v n : Int) (w : World) : Calls Tryz.prog 185 #[stV ⟨2, v, n, 0, 0, 0⟩] w (BelO w (if2 v n) (varOk v && (decide (0 ≤ n) && decide (n ≤ 3)))) := by
  generalize hr : (varOk v && (decide (0 ≤ n) && decide (n ≤ 3))) = r
  have HR := Lib.hid hr
  have hq : ∀ w, (Op.equalIn 10000 112 (stV ⟨2, v, n, 0, 0, 0⟩) (stV ⟨2, v, n, 0, 0, 0⟩)).run Tryz.prog w = .ok true w := fun w => by rw [run_eqSt]; simp [eqSt]
  have hm := meth2 v n
  have hx := Box.new w #[.int .i64 2, .int .i64 v, .int .i64 n, .int .i64 0, .int .i64 0, .int .i64 0] 112
  clear hr
  go_enter Tryz.func185, Tryz.ntmps185
  go_wp2_with (go_at_call 222; refine (of2 v n 0 0 0 _).mono ?_; rintro e w1 ⟨rfl, hb1⟩)
  have hcs : w1.cell? ⟨w.heap.size, 0, none⟩ = some (.int .i64 2) ∧ w1.cell? ⟨w.heap.size, 1, none⟩ = some (.int .i64 v) ∧ w1.cell? ⟨w.heap.size, 2, none⟩ = some (.int .i64 n) ∧ w1.cell? ⟨w.heap.size, 3, none⟩ = some (.int .i64 0) ∧ w1.cell? ⟨w.heap.size, 4, none⟩ = some (.int .i64 0) ∧ w1.cell? ⟨w.heap.size, 5, none⟩ = some (.int .i64 0) := by
    have hx1 := hx.below hb1
    exact ⟨hx1.cell 0, hx1.cell 1, hx1.cell 2, hx1.cell 3, hx1.cell 4, hx1.cell 5⟩
  have hlt := (hx.below hb1).lt
  have HB := Lib.hid (below_then (below_new w _) hb1)
  clear hx hb1
  go_region_held3 (fun w' => w'.cell? ⟨w.heap.size, 0, none⟩ = some (.int .i64 2) ∧ w'.cell? ⟨w.heap.size, 1, none⟩ = some (.int .i64 v) ∧ w'.cell? ⟨w.heap.size, 2, none⟩ = some (.int .i64 n) ∧ w'.cell? ⟨w.heap.size, 3, none⟩ = some (.int .i64 0) ∧ w'.cell? ⟨w.heap.size, 4, none⟩ = some (.int .i64 0) ∧ w'.cell? ⟨w.heap.size, 5, none⟩ = some (.int .i64 0))
    (first | go_keep | (exact held6 (by assumption) (by assumption) (by assumption)))
    (first
      | (go_at_call 283; refine (stmt_m2 v n _).mono ?_; rintro e w2 ⟨rfl, hb2⟩; have hb2' := drew_below hb2; have hlt2 := Nat.lt_of_lt_of_le hlt hb2'.size)
      | (go_at_call 223; refine (fields2 v n _ HR.out _).mono ?_; rintro e w3 ⟨rfl, hb3⟩))
  have HB2 := Lib.hid (below_then HB.out (below_then (drew_below hb2) hb3))
  clear hb2 hb3 hb2'
  all_goals cases r
  all_goals
    go_wp2
    go_ret2
    exact ⟨rfl, HB2.out⟩
set_option maxHeartbeats 2000000 in
theorem valid3y (o a b : Int) (w : World) : Calls Tryz.prog 185 #[stV ⟨3, 0, 0, o, a, b⟩] w (BelO w (if3 o a b) (exprOk o a b)) := by
  generalize hr : (exprOk o a b) = r
  have HR := Lib.hid hr
  have hq : ∀ w, (Op.equalIn 10000 112 (stV ⟨3, 0, 0, o, a, b⟩) (stV ⟨3, 0, 0, o, a, b⟩)).run Tryz.prog w = .ok true w := fun w => by rw [run_eqSt]; simp [eqSt]
  have hm := meth3 o a b
  have hx := Box.new w #[.int .i64 3, .int .i64 0, .int .i64 0, .int .i64 o, .int .i64 a, .int .i64 b] 112
  clear hr
  go_enter Tryz.func185, Tryz.ntmps185
  go_wp2_with (go_at_call 222; refine (of3 0 0 o a b _).mono ?_; rintro e w1 ⟨rfl, hb1⟩)
  have hcs : w1.cell? ⟨w.heap.size, 0, none⟩ = some (.int .i64 3) ∧ w1.cell? ⟨w.heap.size, 1, none⟩ = some (.int .i64 0) ∧ w1.cell? ⟨w.heap.size, 2, none⟩ = some (.int .i64 0) ∧ w1.cell? ⟨w.heap.size, 3, none⟩ = some (.int .i64 o) ∧ w1.cell? ⟨w.heap.size, 4, none⟩ = some (.int .i64 a) ∧ w1.cell? ⟨w.heap.size, 5, none⟩ = some (.int .i64 b) := by
    have hx1 := hx.below hb1
    exact ⟨hx1.cell 0, hx1.cell 1, hx1.cell 2, hx1.cell 3, hx1.cell 4, hx1.cell 5⟩
  have hlt := (hx.below hb1).lt
  have HB := Lib.hid (below_then (below_new w _) hb1)
  clear hx hb1
  go_region_held3 (fun w' => w'.cell? ⟨w.heap.size, 0, none⟩ = some (.int .i64 3) ∧ w'.cell? ⟨w.heap.size, 1, none⟩ = some (.int .i64 0) ∧ w'.cell? ⟨w.heap.size, 2, none⟩ = some (.int .i64 0) ∧ w'.cell? ⟨w.heap.size, 3, none⟩ = some (.int .i64 o) ∧ w'.cell? ⟨w.heap.size, 4, none⟩ = some (.int .i64 a) ∧ w'.cell? ⟨w.heap.size, 5, none⟩ = some (.int .i64 b))
    (first | go_keep | (exact held6 (by assumption) (by assumption) (by assumption)))
    (first
      | (go_at_call 284; refine (stmt_m3 o a b _).mono ?_; rintro e w2 ⟨rfl, hb2⟩; have hb2' := drew_below hb2; have hlt2 := Nat.lt_of_lt_of_le hlt hb2'.size)
      | (go_at_call 223; refine (fields3 o a b _ HR.out _).mono ?_; rintro e w3 ⟨rfl, hb3⟩))
  have HB2 := Lib.hid (below_then HB.out (below_then (drew_below hb2) hb3))
  clear hb2 hb3 hb2'
  all_goals cases r
  all_goals
    go_wp2
    go_ret2
    exact ⟨rfl, HB2.out⟩
set_option maxHeartbeats 2000000 in
theorem valid4y (o a b : Int) (w : World) : Calls Tryz.prog 185 #[stV ⟨4, 0, 0, o, a, b⟩] w (BelO w (if4 o a b) (exprOk o a b)) := by
  generalize hr : (exprOk o a b) = r
  have HR := Lib.hid hr
  have hq : ∀ w, (Op.equalIn 10000 112 (stV ⟨4, 0, 0, o, a, b⟩) (stV ⟨4, 0, 0, o, a, b⟩)).run Tryz.prog w = .ok true w := fun w => by rw [run_eqSt]; simp [eqSt]
  have hm := meth4 o a b
  have hx := Box.new w #[.int .i64 4, .int .i64 0, .int .i64 0, .int .i64 o, .int .i64 a, .int .i64 b] 112
  clear hr
  go_enter Tryz.func185, Tryz.ntmps185
  go_wp2_with (go_at_call 222; refine (of4 0 0 o a b _).mono ?_; rintro e w1 ⟨rfl, hb1⟩)
  have hcs : w1.cell? ⟨w.heap.size, 0, none⟩ = some (.int .i64 4) ∧ w1.cell? ⟨w.heap.size, 1, none⟩ = some (.int .i64 0) ∧ w1.cell? ⟨w.heap.size, 2, none⟩ = some (.int .i64 0) ∧ w1.cell? ⟨w.heap.size, 3, none⟩ = some (.int .i64 o) ∧ w1.cell? ⟨w.heap.size, 4, none⟩ = some (.int .i64 a) ∧ w1.cell? ⟨w.heap.size, 5, none⟩ = some (.int .i64 b) := by
    have hx1 := hx.below hb1
    exact ⟨hx1.cell 0, hx1.cell 1, hx1.cell 2, hx1.cell 3, hx1.cell 4, hx1.cell 5⟩
  have hlt := (hx.below hb1).lt
  have HB := Lib.hid (below_then (below_new w _) hb1)
  clear hx hb1
  go_region_held3 (fun w' => w'.cell? ⟨w.heap.size, 0, none⟩ = some (.int .i64 4) ∧ w'.cell? ⟨w.heap.size, 1, none⟩ = some (.int .i64 0) ∧ w'.cell? ⟨w.heap.size, 2, none⟩ = some (.int .i64 0) ∧ w'.cell? ⟨w.heap.size, 3, none⟩ = some (.int .i64 o) ∧ w'.cell? ⟨w.heap.size, 4, none⟩ = some (.int .i64 a) ∧ w'.cell? ⟨w.heap.size, 5, none⟩ = some (.int .i64 b))
    (first | go_keep | (exact held6 (by assumption) (by assumption) (by assumption)))
    (first
      | (go_at_call 285; refine (stmt_m4 o a b _).mono ?_; rintro e w2 ⟨rfl, hb2⟩; have hb2' := drew_below hb2; have hlt2 := Nat.lt_of_lt_of_le hlt hb2'.size)
      | (go_at_call 223; refine (fields4 o a b _ HR.out _).mono ?_; rintro e w3 ⟨rfl, hb3⟩))
  have HB2 := Lib.hid (below_then HB.out (below_then (drew_below hb2) hb3))
  clear hb2 hb3 hb2'
  all_goals cases r
  all_goals
    go_wp2
    go_ret2
    exact ⟨rfl, HB2.out⟩
set_option maxHeartbeats 2000000 in
theorem valid5y (n : Int) (w : World) : Calls Tryz.prog 185 #[stV ⟨5, 0, n, 0, 0, 0⟩] w (BelO w (if5 n) (decide (1 ≤ n) && decide (n ≤ 5))) := by
  generalize hr : (decide (1 ≤ n) && decide (n ≤ 5)) = r
  have HR := Lib.hid hr
  have hq : ∀ w, (Op.equalIn 10000 112 (stV ⟨5, 0, n, 0, 0, 0⟩) (stV ⟨5, 0, n, 0, 0, 0⟩)).run Tryz.prog w = .ok true w := fun w => by rw [run_eqSt]; simp [eqSt]
  have hm := meth5 n
  have hx := Box.new w #[.int .i64 5, .int .i64 0, .int .i64 n, .int .i64 0, .int .i64 0, .int .i64 0] 112
  clear hr
  go_enter Tryz.func185, Tryz.ntmps185
  go_wp2_with (go_at_call 222; refine (of5 0 n 0 0 0 _).mono ?_; rintro e w1 ⟨rfl, hb1⟩)
  have hcs : w1.cell? ⟨w.heap.size, 0, none⟩ = some (.int .i64 5) ∧ w1.cell? ⟨w.heap.size, 1, none⟩ = some (.int .i64 0) ∧ w1.cell? ⟨w.heap.size, 2, none⟩ = some (.int .i64 n) ∧ w1.cell? ⟨w.heap.size, 3, none⟩ = some (.int .i64 0) ∧ w1.cell? ⟨w.heap.size, 4, none⟩ = some (.int .i64 0) ∧ w1.cell? ⟨w.heap.size, 5, none⟩ = some (.int .i64 0) := by
    have hx1 := hx.below hb1
    exact ⟨hx1.cell 0, hx1.cell 1, hx1.cell 2, hx1.cell 3, hx1.cell 4, hx1.cell 5⟩
  have hlt := (hx.below hb1).lt
  have HB := Lib.hid (below_then (below_new w _) hb1)
  clear hx hb1
  go_region_held3 (fun w' => w'.cell? ⟨w.heap.size, 0, none⟩ = some (.int .i64 5) ∧ w'.cell? ⟨w.heap.size, 1, none⟩ = some (.int .i64 0) ∧ w'.cell? ⟨w.heap.size, 2, none⟩ = some (.int .i64 n) ∧ w'.cell? ⟨w.heap.size, 3, none⟩ = some (.int .i64 0) ∧ w'.cell? ⟨w.heap.size, 4, none⟩ = some (.int .i64 0) ∧ w'.cell? ⟨w.heap.size, 5, none⟩ = some (.int .i64 0))
    (first | go_keep | (exact held6 (by assumption) (by assumption) (by assumption)))
    (first
      | (go_at_call 286; refine (stmt_m5 n _).mono ?_; rintro e w2 ⟨rfl, hb2⟩; have hb2' := drew_below hb2; have hlt2 := Nat.lt_of_lt_of_le hlt hb2'.size)
      | (go_at_call 223; refine (fields5 n _ HR.out _).mono ?_; rintro e w3 ⟨rfl, hb3⟩))
  have HB2 := Lib.hid (below_then HB.out (below_then (drew_below hb2) hb3))
  clear hb2 hb3 hb2'
  all_goals cases r
  all_goals
    go_wp2
    go_ret2
    exact ⟨rfl, HB2.out⟩
set_option maxHeartbeats 2000000 in
theorem valid6y (w : World) : Calls Tryz.prog 185 #[stV ⟨6, 0, 0, 0, 0, 0⟩] w (BelO w (if6 ) (true)) := by
  have hq : ∀ w, (Op.equalIn 10000 112 (stV ⟨6, 0, 0, 0, 0, 0⟩) (stV ⟨6, 0, 0, 0, 0, 0⟩)).run Tryz.prog w = .ok true w := fun w => by rw [run_eqSt]; simp [eqSt]
  have hm := meth6 
  have hx := Box.new w #[.int .i64 6, .int .i64 0, .int .i64 0, .int .i64 0, .int .i64 0, .int .i64 0] 112
  go_enter Tryz.func185, Tryz.ntmps185
  go_wp2_with (go_at_call 222; refine (of6 0 0 0 0 0 _).mono ?_; rintro e w1 ⟨rfl, hb1⟩)
  have hcs : w1.cell? ⟨w.heap.size, 0, none⟩ = some (.int .i64 6) ∧ w1.cell? ⟨w.heap.size, 1, none⟩ = some (.int .i64 0) ∧ w1.cell? ⟨w.heap.size, 2, none⟩ = some (.int .i64 0) ∧ w1.cell? ⟨w.heap.size, 3, none⟩ = some (.int .i64 0) ∧ w1.cell? ⟨w.heap.size, 4, none⟩ = some (.int .i64 0) ∧ w1.cell? ⟨w.heap.size, 5, none⟩ = some (.int .i64 0) := by
    have hx1 := hx.below hb1
    exact ⟨hx1.cell 0, hx1.cell 1, hx1.cell 2, hx1.cell 3, hx1.cell 4, hx1.cell 5⟩
  have hlt := (hx.below hb1).lt
  have HB := Lib.hid (below_then (below_new w _) hb1)
  clear hx hb1
  go_region_held3 (fun w' => w'.cell? ⟨w.heap.size, 0, none⟩ = some (.int .i64 6) ∧ w'.cell? ⟨w.heap.size, 1, none⟩ = some (.int .i64 0) ∧ w'.cell? ⟨w.heap.size, 2, none⟩ = some (.int .i64 0) ∧ w'.cell? ⟨w.heap.size, 3, none⟩ = some (.int .i64 0) ∧ w'.cell? ⟨w.heap.size, 4, none⟩ = some (.int .i64 0) ∧ w'.cell? ⟨w.heap.size, 5, none⟩ = some (.int .i64 0))
    (first | go_keep | (exact held6 (by assumption) (by assumption) (by assumption)))
    (first
      | (go_at_call 287; refine (stmt_m6  _).mono ?_; rintro e w2 ⟨rfl, hb2⟩; have hb2' := drew_below hb2; have hlt2 := Nat.lt_of_lt_of_le hlt hb2'.size)
      | (go_at_call 223; refine (fields6  _ rfl _).mono ?_; rintro e w3 ⟨rfl, hb3⟩))
  have HB2 := Lib.hid (below_then HB.out (below_then (drew_below hb2) hb3))
  clear hb2 hb3 hb2'
  all_goals
    go_wp2
    go_ret2
    exact ⟨rfl, HB2.out⟩
/-- A statement as a value of its own type. -/
def ifSt (s : St) : Value :=
  if s.k = 1 then if1 s.v s.o s.a s.b else if s.k = 2 then if2 s.v s.n else if s.k = 3 then if3 s.o s.a s.b else if s.k = 4 then if4 s.o s.a s.b else if s.k = 5 then if5 s.n else if s.k = 6 then if6 else .nilIface
theorem eqSt_symm (s t : St) : eqSt s t = eqSt t s := by rw [Bool.eq_iff_iff]; simp [eqSt, eq_comm]
theorem valid_any (s : St) (w : World) : Calls Tryz.prog 185 #[stV s] w (BelO w (ifSt s) (stOk s)) := by
  obtain ⟨k, v, n, o, a, b⟩ := s
  rcases kinds k with rfl | rfl | rfl | rfl | rfl | rfl | ⟨h1, h2, h3, h4, h5, h6⟩
  · cases hqb : eqSt ⟨1, v, 0, o, a, b⟩ ⟨1, v, n, o, a, b⟩
    · have hn : stOk ⟨1, v, n, o, a, b⟩ = false := not_plain (t := ⟨1, v, 0, o, a, b⟩) rfl (by rw [eqSt_symm]; exact hqb)
      rw [hn]; exact valid1n v n o a b hqb w
    · obtain rfl : 0 = n := by simpa [eqSt] using hqb
      rw [stOk1]; exact valid1y v o a b w
  · cases hqb : eqSt ⟨2, v, n, 0, 0, 0⟩ ⟨2, v, n, o, a, b⟩
    · have hn : stOk ⟨2, v, n, o, a, b⟩ = false := not_plain (t := ⟨2, v, n, 0, 0, 0⟩) rfl (by rw [eqSt_symm]; exact hqb)
      rw [hn]; exact valid2n v n o a b hqb w
    · obtain ⟨rfl, rfl, rfl⟩ : 0 = o ∧ 0 = a ∧ 0 = b := by simpa [eqSt] using hqb
      rw [stOk2]; exact valid2y v n w
  · cases hqb : eqSt ⟨3, 0, 0, o, a, b⟩ ⟨3, v, n, o, a, b⟩
    · have hn : stOk ⟨3, v, n, o, a, b⟩ = false := not_plain (t := ⟨3, 0, 0, o, a, b⟩) rfl (by rw [eqSt_symm]; exact hqb)
      rw [hn]; exact valid3n v n o a b hqb w
    · obtain ⟨rfl, rfl⟩ : 0 = v ∧ 0 = n := by simpa [eqSt] using hqb
      rw [stOk3]; exact valid3y o a b w
  · cases hqb : eqSt ⟨4, 0, 0, o, a, b⟩ ⟨4, v, n, o, a, b⟩
    · have hn : stOk ⟨4, v, n, o, a, b⟩ = false := not_plain (t := ⟨4, 0, 0, o, a, b⟩) rfl (by rw [eqSt_symm]; exact hqb)
      rw [hn]; exact valid4n v n o a b hqb w
    · obtain ⟨rfl, rfl⟩ : 0 = v ∧ 0 = n := by simpa [eqSt] using hqb
      rw [stOk4]; exact valid4y o a b w
  · cases hqb : eqSt ⟨5, 0, n, 0, 0, 0⟩ ⟨5, v, n, o, a, b⟩
    · have hn : stOk ⟨5, v, n, o, a, b⟩ = false := not_plain (t := ⟨5, 0, n, 0, 0, 0⟩) rfl (by rw [eqSt_symm]; exact hqb)
      rw [hn]; exact valid5n v n o a b hqb w
    · obtain ⟨rfl, rfl, rfl, rfl⟩ : 0 = v ∧ 0 = o ∧ 0 = a ∧ 0 = b := by simpa [eqSt] using hqb
      rw [stOk5]; exact valid5y n w
  · cases hqb : eqSt ⟨6, 0, 0, 0, 0, 0⟩ ⟨6, v, n, o, a, b⟩
    · have hn : stOk ⟨6, v, n, o, a, b⟩ = false := not_plain (t := ⟨6, 0, 0, 0, 0, 0⟩) rfl (by rw [eqSt_symm]; exact hqb)
      rw [hn]; exact valid6n v n o a b hqb w
    · obtain ⟨rfl, rfl, rfl, rfl, rfl⟩ : 0 = v ∧ 0 = n ∧ 0 = o ∧ 0 = a ∧ 0 = b := by simpa [eqSt] using hqb
      rw [stOk6]; exact valid6y  w
  · rw [stOk_other h1 h2 h3 h4 h5 h6]; exact valid7 k v n o a b h1 h2 h3 h4 h5 h6 w
theorem impl_stmtok (s : St) (r : Bool) (hr : stOk s = r) (w : World) : Calls Tryz.prog 141 #[stV s] w (BelB w r) := by
  subst hr
  have H := Lib.hid (valid_any s)
  go_enter Tryz.func141, Tryz.ntmps141
  go_wp2_with (go_at_call 185; refine (H.out _).mono ?_; rintro e w1 ⟨rfl, hb1⟩)
  have HB := Lib.hid (below_then (below_new w _) hb1)
  clear hb1
  go_wp2
  go_ret
  exact ⟨rfl, HB.out⟩
end Go.Proofs.YtmgeecdgebemdaaGreatDoor.stm

/- Chapter 12 of the program: ReadSensor, and the functions that yield the readings; nothing that was there is written. -/
namespace Go.Proofs.YtmgeecdgebemdaaGreatDoor.exe
open Go Go.ChangeShapes Go.WideShapes Go.ChangeAt Go.RowKit Go.Proofs.YtmgeecdgebemdaaGreatDoor.row Go.Proofs.YtmgeecdgebemdaaGreatDoor.val Go.Proofs.YtmgeecdgebemdaaGreatDoor.expr Go.Proofs.YtmgeecdgebemdaaGreatDoor.stm Go.Proofs.YtmgeecdgebemdaaGreatDoor.blk Go.Proofs.YtmgeecdgebemdaaGreatDoor.sets
set_option maxRecDepth 100000 in
set_option maxHeartbeats 2000000 in
theorem impl_readsensorR (w : World) (a : Option Addr) (n cap : Nat) (R : List Int) (hn : (n : Int) ≤ 1048576) (h : Row w a n R) (q m : Int) :
    Calls Tryz.prog 140 #[.slice a n cap, .int .i64 q, .int .i64 m] w (Ret w (readS R q m)) := by
  have hl := h.1
  by_cases h0 : n = 0
  · subst h0
    have HV := Lib.hid (readS_no (R := R) (q := q) (n := m) (.inl hl))
    go_enter Tryz.func140, Tryz.ntmps140
    go_wp2
    go_ret
    exact ⟨ret_i HV.out.symm, rfl⟩
  · have hpos : ¬ (n : Int) = 0 := by omega
    cases hq : (decide (0 ≤ q) && decide (q ≤ 3))
    · have HQ := Lib.hid hq
      have HV := Lib.hid (readS_no (R := R) (q := q) (n := m) (by simp at hq; omega))
      clear hq
      go_enter Tryz.func140, Tryz.ntmps140
      go_wp2_with (go_at_call 183; (with_reducible refine (sensnum q _ HQ.out _).mono ?_); rintro e w3 ⟨rfl, rfl⟩)
      go_ret
      exact ⟨ret_i HV.out.symm, rfl⟩
    · have HQ := Lib.hid hq
      have hq2 : 0 ≤ q ∧ q ≤ 3 := by simpa using hq
      clear hq
      by_cases hm : m < 0
      · have HV := Lib.hid (readS_no (R := R) (q := q) (n := m) (by omega))
        go_enter Tryz.func140, Tryz.ntmps140
        go_wp2_with (go_at_call 183; (with_reducible refine (sensnum q _ HQ.out _).mono ?_); rintro e w3 ⟨rfl, rfl⟩)
        go_ret
        exact ⟨ret_i HV.out.symm, rfl⟩
      · have hmd : decide (m < 0) = false := by simp; omega
        have ht : m.tmod n = m % n := Int.tmod_eq_emod_of_nonneg (by omega)
        have hr0 : 0 ≤ m % n := Int.emod_nonneg m (by omega)
        have hr1 : m % n < n := Int.emod_lt_of_pos m (by omega)
        obtain ⟨k, hk⟩ : ∃ k : Nat, m % n = k := ⟨(m % n).toNat, by omega⟩
        obtain ⟨b, off, x, rfl, _, hx, hc⟩ := h.2 k (by omega)
        have HV := Lib.hid (show readS R q m = sat (sat x + sat (100 * q)) by
          rw [readS_ok (by omega) hq2.1 (by omega) (by omega), hl, hk, List.getD_eq_getElem?_getD, show ((k : Int)).toNat = k by omega, hx]; rfl)
        rw [hk] at ht hr0 hr1
        have hm0 : 0 ≤ m := by omega
        clear hx h hk hm
        go_enter Tryz.func140, Tryz.ntmps140
        go_wp2_with (first
          | (go_at_call 183; (with_reducible refine (sensnum q _ HQ.out _).mono ?_); rintro e w3 ⟨rfl, rfl⟩)
          | (go_at_call 184; refine (impl_add _ _ _).mono ?_; rintro e w4 ⟨rfl, rfl⟩))
        go_ret
        exact ⟨ret_i HV.out.symm, rfl⟩
theorem impl_readsensor (w : World) (a : Option Addr) (n cap : Nat) (R : List Int) (hn : (n : Int) ≤ 1048576) (h : Row w a n R) (q m : Int) :
    Calls Tryz.prog 140 #[.slice a n cap, .int .i64 q, .int .i64 m] w (BelI w (readS R q m)) :=
  (impl_readsensorR w a n cap R hn h q m).mono fun _ _ ⟨h1, h2⟩ => ⟨h1, h2 ▸ Below.refl _ _⟩
theorem list_inP {Y : List Int} {n : Nat} {x : Int} (h : Y[n]? = some x) (q : Int) : listSrc Y q n = x := by
  unfold listSrc; rw [List.getD_eq_getElem?_getD, h]; rfl
theorem list_outP {Y : List Int} {n : Nat} (h : Y.length ≤ n) (q : Int) : listSrc Y q n = 0 := by
  unfold listSrc; rw [List.getD_eq_getElem?_getD, List.getElem?_eq_none h]; rfl
set_option maxRecDepth 100000 in
set_option maxHeartbeats 2000000 in
theorem rd_live (w : World) (c : PCf) (hlv : c.lv = true) (hS : PCfS c w) (h : CapAt c w) (q : Int) (n : Nat) (hn : n ≤ 100000) (v : Int) (hv : c.src q n = v) :
    Calls Tryz.prog 139 #[.int .i64 q, .int .i64 n, .pointer (some ⟨c.gu, 0, none⟩), .pointer (some ⟨c.gz, 0, none⟩)] w (Ret w v) := by
  obtain ⟨lv, gu, gz, al, nl, cl, Y, z⟩ := c
  simp only at hlv
  subst hlv
  obtain ⟨⟨_, c0⟩, h1, _⟩ := h
  obtain ⟨hY, hnl, hz, _⟩ := hS
  have c1 := (h1 rfl).2.2
  dsimp only at c0 c1 hY hnl hz
  have hv2 : readS Y q (z + n) = v := hv
  have hn0 : 0 ≤ z + n ∧ z + n ≤ 2000000 := by omega
  have HR := Lib.hid (impl_readsensorR w al nl cl Y hnl hY q (z + n))
  rw [hv2] at HR
  clear hv hv2 hY h1
  go_enter Tryz.func139, Tryz.ntmps139
  go_wp2_with (go_at_call 140; (with_reducible refine HR.out.mono ?_); rintro e w3 ⟨rfl, rfl⟩)
  go_ret
  exact ⟨rfl, rfl⟩
set_option maxRecDepth 100000 in
/-- The function that yields the readings, with what it has captured. -/
theorem impl_sensorsfrom (ar : Option Addr) (nr cr : Nat) (z : Int) (w : World) : Calls Tryz.prog 80 #[.slice ar nr cr, .int .i64 z] w
    (fun e w' => e = .returned (fnS w.heap.size (w.heap.size + 1)) ∧ Below w.heap.size w w' ∧ Box w.heap.size #[.slice ar nr cr] 27 w' ∧ Box (w.heap.size + 1) #[.int .i64 z] 3 w') := by
  have hmf : ∀ (fn : Fn) (first cap : Array Value) (w : World), (Instr.makeFunc fn first cap).run Tryz.prog w = .ok (.func fn first cap) w := fun _ _ _ _ => rfl
  go_enter Tryz.func80, Tryz.ntmps80
  go_wp2
  go_ret
  refine ⟨rfl, below_then (below_new w _) (below_new _ _), (Box.new w _ _).alloc _, ?_⟩
  have h9 := Box.new (w.alloc (.cells #[.slice ar nr cr] 27)) #[.int .i64 z] 3
  rw [World.size_alloc] at h9
  exact h9
theorem impl_first (z : Int) (r : Bool) (hr : (decide (0 ≤ z) && decide (z ≤ 1000000)) = r) (w : World) : Calls Tryz.prog 135 #[.int .i64 z] w (RetB w r) := by
  subst hr
  by_cases h : 0 ≤ z
  · simp only [h, decide_true, Bool.true_and]
    go_enter Tryz.func135, Tryz.ntmps135
    go_wp2
    go_ret
    exact ⟨rfl, rfl⟩
  · simp only [h, decide_false, Bool.false_and]
    go_enter Tryz.func135, Tryz.ntmps135
    go_wp2
    go_ret
    exact ⟨rfl, rfl⟩
end Go.Proofs.YtmgeecdgebemdaaGreatDoor.exe
