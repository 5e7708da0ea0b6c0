/- Several texts in one: StmU. -/
import Derived.Test.YtlicadaecfgklaaGreatGHub17

/- Chapter 4's StmtOk of the program: what the plain function says, for every statement; nothing that was there is written. -/
namespace Go.Proofs.YtlicadaecfgklaaGreat.stm
open Go.ChangeShapes Go.WideShapes Go.ChangeAt Go.RowKit Go.Proofs.YtlicadaecfgklaaGreat.row Go.Proofs.YtlicadaecfgklaaGreat.val Go.Proofs.YtlicadaecfgklaaGreat.expr

set_option maxHeartbeats 2000000 in
theorem valid1y (v o a b : Int) (w : World) : Calls Tryz.prog 85 #[stV ⟨1, v, 0, o, a, b⟩] w (BelO w (if1 v o a b) (varOk v && exprOk o a b)) := by
  generalize hr : (varOk v && exprOk o a b) = r
  have HR := Lib.hid hr
  have hq : ∀ w, (Op.equalIn 10000 68 (stV ⟨1, v, 0, o, a, b⟩) (stV ⟨1, v, 0, o, a, b⟩)).run Tryz.prog w = .ok true w := fun w => by rw [run_eqSt]; simp [eqSt]
  have hm := meth1 v o a b
  have hx := Box.new w #[.int .i64 1, .int .i64 v, .int .i64 0, .int .i64 o, .int .i64 a, .int .i64 b] 68
  clear hr
  go_enter Tryz.func85, Tryz.ntmps85
  go_wp2_with (go_at_call 95; refine (of1 v 0 o a b _).mono ?_; rintro e w1 ⟨rfl, hb1⟩)
  have hcs : w1.cell? ⟨w.heap.size, 0, none⟩ = some (.int .i64 1) ∧ w1.cell? ⟨w.heap.size, 1, none⟩ = some (.int .i64 v) ∧ w1.cell? ⟨w.heap.size, 2, none⟩ = some (.int .i64 0) ∧ w1.cell? ⟨w.heap.size, 3, none⟩ = some (.int .i64 o) ∧ w1.cell? ⟨w.heap.size, 4, none⟩ = some (.int .i64 a) ∧ w1.cell? ⟨w.heap.size, 5, none⟩ = some (.int .i64 b) := by
    have hx1 := hx.below hb1
    exact ⟨hx1.cell 0, hx1.cell 1, hx1.cell 2, hx1.cell 3, hx1.cell 4, hx1.cell 5⟩
  have hlt := (hx.below hb1).lt
  have HB := Lib.hid (below_then (below_new w _) hb1)
  clear hx hb1
  go_region_held3 (fun w' => w'.cell? ⟨w.heap.size, 0, none⟩ = some (.int .i64 1) ∧ w'.cell? ⟨w.heap.size, 1, none⟩ = some (.int .i64 v) ∧ w'.cell? ⟨w.heap.size, 2, none⟩ = some (.int .i64 0) ∧ w'.cell? ⟨w.heap.size, 3, none⟩ = some (.int .i64 o) ∧ w'.cell? ⟨w.heap.size, 4, none⟩ = some (.int .i64 a) ∧ w'.cell? ⟨w.heap.size, 5, none⟩ = some (.int .i64 b))
    (first | go_keep | (exact held6 (by assumption) (by assumption) (by assumption)))
    (first
      | (go_at_call 141; refine (stmt_m1 v o a b _).mono ?_; rintro e w2 ⟨rfl, hb2⟩; have hb2' := drew_below hb2; have hlt2 := Nat.lt_of_lt_of_le hlt hb2'.size)
      | (go_at_call 96; refine (fields1 v o a b _ HR.out _).mono ?_; rintro e w3 ⟨rfl, hb3⟩))
  have HB2 := Lib.hid (below_then HB.out (below_then (drew_below hb2) hb3))
  clear hb2 hb3 hb2'
  all_goals cases r
  all_goals
    go_wp2
    go_ret2
    exact ⟨rfl, HB2.out⟩
set_option maxHeartbeats 2000000 in
theorem valid2y (v n : Int) (w : World) : Calls Tryz.prog 85 #[stV ⟨2, v, n, 0, 0, 0⟩] w (BelO w (if2 v n) (varOk v && (decide (0 ≤ n) && decide (n ≤ 3)))) := by
  generalize hr : (varOk v && (decide (0 ≤ n) && decide (n ≤ 3))) = r
  have HR := Lib.hid hr
  have hq : ∀ w, (Op.equalIn 10000 68 (stV ⟨2, v, n, 0, 0, 0⟩) (stV ⟨2, v, n, 0, 0, 0⟩)).run Tryz.prog w = .ok true w := fun w => by rw [run_eqSt]; simp [eqSt]
  have hm := meth2 v n
  have hx := Box.new w #[.int .i64 2, .int .i64 v, .int .i64 n, .int .i64 0, .int .i64 0, .int .i64 0] 68
  clear hr
  go_enter Tryz.func85, Tryz.ntmps85
  go_wp2_with (go_at_call 95; refine (of2 v n 0 0 0 _).mono ?_; rintro e w1 ⟨rfl, hb1⟩)
  have hcs : w1.cell? ⟨w.heap.size, 0, none⟩ = some (.int .i64 2) ∧ w1.cell? ⟨w.heap.size, 1, none⟩ = some (.int .i64 v) ∧ w1.cell? ⟨w.heap.size, 2, none⟩ = some (.int .i64 n) ∧ w1.cell? ⟨w.heap.size, 3, none⟩ = some (.int .i64 0) ∧ w1.cell? ⟨w.heap.size, 4, none⟩ = some (.int .i64 0) ∧ w1.cell? ⟨w.heap.size, 5, none⟩ = some (.int .i64 0) := by
    have hx1 := hx.below hb1
    exact ⟨hx1.cell 0, hx1.cell 1, hx1.cell 2, hx1.cell 3, hx1.cell 4, hx1.cell 5⟩
  have hlt := (hx.below hb1).lt
  have HB := Lib.hid (below_then (below_new w _) hb1)
  clear hx hb1
  go_region_held3 (fun w' => w'.cell? ⟨w.heap.size, 0, none⟩ = some (.int .i64 2) ∧ w'.cell? ⟨w.heap.size, 1, none⟩ = some (.int .i64 v) ∧ w'.cell? ⟨w.heap.size, 2, none⟩ = some (.int .i64 n) ∧ w'.cell? ⟨w.heap.size, 3, none⟩ = some (.int .i64 0) ∧ w'.cell? ⟨w.heap.size, 4, none⟩ = some (.int .i64 0) ∧ w'.cell? ⟨w.heap.size, 5, none⟩ = some (.int .i64 0))
    (first | go_keep | (exact held6 (by assumption) (by assumption) (by assumption)))
    (first
      | (go_at_call 142; refine (stmt_m2 v n _).mono ?_; rintro e w2 ⟨rfl, hb2⟩; have hb2' := drew_below hb2; have hlt2 := Nat.lt_of_lt_of_le hlt hb2'.size)
      | (go_at_call 96; refine (fields2 v n _ HR.out _).mono ?_; rintro e w3 ⟨rfl, hb3⟩))
  have HB2 := Lib.hid (below_then HB.out (below_then (drew_below hb2) hb3))
  clear hb2 hb3 hb2'
  all_goals cases r
  all_goals
    go_wp2
    go_ret2
    exact ⟨rfl, HB2.out⟩
set_option maxHeartbeats 2000000 in
theorem valid3y (o a b : Int) (w : World) : Calls Tryz.prog 85 #[stV ⟨3, 0, 0, o, a, b⟩] w (BelO w (if3 o a b) (exprOk o a b)) := by
  generalize hr : (exprOk o a b) = r
  have HR := Lib.hid hr
  have hq : ∀ w, (Op.equalIn 10000 68 (stV ⟨3, 0, 0, o, a, b⟩) (stV ⟨3, 0, 0, o, a, b⟩)).run Tryz.prog w = .ok true w := fun w => by rw [run_eqSt]; simp [eqSt]
  have hm := meth3 o a b
  have hx := Box.new w #[.int .i64 3, .int .i64 0, .int .i64 0, .int .i64 o, .int .i64 a, .int .i64 b] 68
  clear hr
  go_enter Tryz.func85, Tryz.ntmps85
  go_wp2_with (go_at_call 95; refine (of3 0 0 o a b _).mono ?_; rintro e w1 ⟨rfl, hb1⟩)
  have hcs : w1.cell? ⟨w.heap.size, 0, none⟩ = some (.int .i64 3) ∧ w1.cell? ⟨w.heap.size, 1, none⟩ = some (.int .i64 0) ∧ w1.cell? ⟨w.heap.size, 2, none⟩ = some (.int .i64 0) ∧ w1.cell? ⟨w.heap.size, 3, none⟩ = some (.int .i64 o) ∧ w1.cell? ⟨w.heap.size, 4, none⟩ = some (.int .i64 a) ∧ w1.cell? ⟨w.heap.size, 5, none⟩ = some (.int .i64 b) := by
    have hx1 := hx.below hb1
    exact ⟨hx1.cell 0, hx1.cell 1, hx1.cell 2, hx1.cell 3, hx1.cell 4, hx1.cell 5⟩
  have hlt := (hx.below hb1).lt
  have HB := Lib.hid (below_then (below_new w _) hb1)
  clear hx hb1
  go_region_held3 (fun w' => w'.cell? ⟨w.heap.size, 0, none⟩ = some (.int .i64 3) ∧ w'.cell? ⟨w.heap.size, 1, none⟩ = some (.int .i64 0) ∧ w'.cell? ⟨w.heap.size, 2, none⟩ = some (.int .i64 0) ∧ w'.cell? ⟨w.heap.size, 3, none⟩ = some (.int .i64 o) ∧ w'.cell? ⟨w.heap.size, 4, none⟩ = some (.int .i64 a) ∧ w'.cell? ⟨w.heap.size, 5, none⟩ = some (.int .i64 b))
    (first | go_keep | (exact held6 (by assumption) (by assumption) (by assumption)))
    (first
      | (go_at_call 143; refine (stmt_m3 o a b _).mono ?_; rintro e w2 ⟨rfl, hb2⟩; have hb2' := drew_below hb2; have hlt2 := Nat.lt_of_lt_of_le hlt hb2'.size)
      | (go_at_call 96; refine (fields3 o a b _ HR.out _).mono ?_; rintro e w3 ⟨rfl, hb3⟩))
  have HB2 := Lib.hid (below_then HB.out (below_then (drew_below hb2) hb3))
  clear hb2 hb3 hb2'
  all_goals cases r
  all_goals
    go_wp2
    go_ret2
    exact ⟨rfl, HB2.out⟩
set_option maxHeartbeats 2000000 in
theorem valid4y (o a b : Int) (w : World) : Calls Tryz.prog 85 #[stV ⟨4, 0, 0, o, a, b⟩] w (BelO w (if4 o a b) (exprOk o a b)) := by
  generalize hr : (exprOk o a b) = r
  have HR := Lib.hid hr
  have hq : ∀ w, (Op.equalIn 10000 68 (stV ⟨4, 0, 0, o, a, b⟩) (stV ⟨4, 0, 0, o, a, b⟩)).run Tryz.prog w = .ok true w := fun w => by rw [run_eqSt]; simp [eqSt]
  have hm := meth4 o a b
  have hx := Box.new w #[.int .i64 4, .int .i64 0, .int .i64 0, .int .i64 o, .int .i64 a, .int .i64 b] 68
  clear hr
  go_enter Tryz.func85, Tryz.ntmps85
  go_wp2_with (go_at_call 95; refine (of4 0 0 o a b _).mono ?_; rintro e w1 ⟨rfl, hb1⟩)
  have hcs : w1.cell? ⟨w.heap.size, 0, none⟩ = some (.int .i64 4) ∧ w1.cell? ⟨w.heap.size, 1, none⟩ = some (.int .i64 0) ∧ w1.cell? ⟨w.heap.size, 2, none⟩ = some (.int .i64 0) ∧ w1.cell? ⟨w.heap.size, 3, none⟩ = some (.int .i64 o) ∧ w1.cell? ⟨w.heap.size, 4, none⟩ = some (.int .i64 a) ∧ w1.cell? ⟨w.heap.size, 5, none⟩ = some (.int .i64 b) := by
    have hx1 := hx.below hb1
    exact ⟨hx1.cell 0, hx1.cell 1, hx1.cell 2, hx1.cell 3, hx1.cell 4, hx1.cell 5⟩
  have hlt := (hx.below hb1).lt
  have HB := Lib.hid (below_then (below_new w _) hb1)
  clear hx hb1
  go_region_held3 (fun w' => w'.cell? ⟨w.heap.size, 0, none⟩ = some (.int .i64 4) ∧ w'.cell? ⟨w.heap.size, 1, none⟩ = some (.int .i64 0) ∧ w'.cell? ⟨w.heap.size, 2, none⟩ = some (.int .i64 0) ∧ w'.cell? ⟨w.heap.size, 3, none⟩ = some (.int .i64 o) ∧ w'.cell? ⟨w.heap.size, 4, none⟩ = some (.int .i64 a) ∧ w'.cell? ⟨w.heap.size, 5, none⟩ = some (.int .i64 b))
    (first | go_keep | (exact held6 (by assumption) (by assumption) (by assumption)))
    (first
      | (go_at_call 144; refine (stmt_m4 o a b _).mono ?_; rintro e w2 ⟨rfl, hb2⟩; have hb2' := drew_below hb2; have hlt2 := Nat.lt_of_lt_of_le hlt hb2'.size)
      | (go_at_call 96; refine (fields4 o a b _ HR.out _).mono ?_; rintro e w3 ⟨rfl, hb3⟩))
  have HB2 := Lib.hid (below_then HB.out (below_then (drew_below hb2) hb3))
  clear hb2 hb3 hb2'
  all_goals cases r
  all_goals
    go_wp2
    go_ret2
    exact ⟨rfl, HB2.out⟩
set_option maxHeartbeats 2000000 in
theorem valid5y (n : Int) (w : World) : Calls Tryz.prog 85 #[stV ⟨5, 0, n, 0, 0, 0⟩] w (BelO w (if5 n) (decide (1 ≤ n) && decide (n ≤ 5))) := by
  generalize hr : (decide (1 ≤ n) && decide (n ≤ 5)) = r
  have HR := Lib.hid hr
  have hq : ∀ w, (Op.equalIn 10000 68 (stV ⟨5, 0, n, 0, 0, 0⟩) (stV ⟨5, 0, n, 0, 0, 0⟩)).run Tryz.prog w = .ok true w := fun w => by rw [run_eqSt]; simp [eqSt]
  have hm := meth5 n
  have hx := Box.new w #[.int .i64 5, .int .i64 0, .int .i64 n, .int .i64 0, .int .i64 0, .int .i64 0] 68
  clear hr
  go_enter Tryz.func85, Tryz.ntmps85
  go_wp2_with (go_at_call 95; refine (of5 0 n 0 0 0 _).mono ?_; rintro e w1 ⟨rfl, hb1⟩)
  have hcs : w1.cell? ⟨w.heap.size, 0, none⟩ = some (.int .i64 5) ∧ w1.cell? ⟨w.heap.size, 1, none⟩ = some (.int .i64 0) ∧ w1.cell? ⟨w.heap.size, 2, none⟩ = some (.int .i64 n) ∧ w1.cell? ⟨w.heap.size, 3, none⟩ = some (.int .i64 0) ∧ w1.cell? ⟨w.heap.size, 4, none⟩ = some (.int .i64 0) ∧ w1.cell? ⟨w.heap.size, 5, none⟩ = some (.int .i64 0) := by
    have hx1 := hx.below hb1
    exact ⟨hx1.cell 0, hx1.cell 1, hx1.cell 2, hx1.cell 3, hx1.cell 4, hx1.cell 5⟩
  have hlt := (hx.below hb1).lt
  have HB := Lib.hid (below_then (below_new w _) hb1)
  clear hx hb1
  go_region_held3 (fun w' => w'.cell? ⟨w.heap.size, 0, none⟩ = some (.int .i64 5) ∧ w'.cell? ⟨w.heap.size, 1, none⟩ = some (.int .i64 0) ∧ w'.cell? ⟨w.heap.size, 2, none⟩ = some (.int .i64 n) ∧ w'.cell? ⟨w.heap.size, 3, none⟩ = some (.int .i64 0) ∧ w'.cell? ⟨w.heap.size, 4, none⟩ = some (.int .i64 0) ∧ w'.cell? ⟨w.heap.size, 5, none⟩ = some (.int .i64 0))
    (first | go_keep | (exact held6 (by assumption) (by assumption) (by assumption)))
    (first
      | (go_at_call 145; refine (stmt_m5 n _).mono ?_; rintro e w2 ⟨rfl, hb2⟩; have hb2' := drew_below hb2; have hlt2 := Nat.lt_of_lt_of_le hlt hb2'.size)
      | (go_at_call 96; refine (fields5 n _ HR.out _).mono ?_; rintro e w3 ⟨rfl, hb3⟩))
  have HB2 := Lib.hid (below_then HB.out (below_then (drew_below hb2) hb3))
  clear hb2 hb3 hb2'
  all_goals cases r
  all_goals
    go_wp2
    go_ret2
    exact ⟨rfl, HB2.out⟩
set_option maxHeartbeats 2000000 in
theorem valid6y (w : World) : Calls Tryz.prog 85 #[stV ⟨6, 0, 0, 0, 0, 0⟩] w (BelO w (if6 ) (true)) := by
  have hq : ∀ w, (Op.equalIn 10000 68 (stV ⟨6, 0, 0, 0, 0, 0⟩) (stV ⟨6, 0, 0, 0, 0, 0⟩)).run Tryz.prog w = .ok true w := fun w => by rw [run_eqSt]; simp [eqSt]
  have hm := meth6 
  have hx := Box.new w #[.int .i64 6, .int .i64 0, .int .i64 0, .int .i64 0, .int .i64 0, .int .i64 0] 68
  go_enter Tryz.func85, Tryz.ntmps85
  go_wp2_with (go_at_call 95; refine (of6 0 0 0 0 0 _).mono ?_; rintro e w1 ⟨rfl, hb1⟩)
  have hcs : w1.cell? ⟨w.heap.size, 0, none⟩ = some (.int .i64 6) ∧ w1.cell? ⟨w.heap.size, 1, none⟩ = some (.int .i64 0) ∧ w1.cell? ⟨w.heap.size, 2, none⟩ = some (.int .i64 0) ∧ w1.cell? ⟨w.heap.size, 3, none⟩ = some (.int .i64 0) ∧ w1.cell? ⟨w.heap.size, 4, none⟩ = some (.int .i64 0) ∧ w1.cell? ⟨w.heap.size, 5, none⟩ = some (.int .i64 0) := by
    have hx1 := hx.below hb1
    exact ⟨hx1.cell 0, hx1.cell 1, hx1.cell 2, hx1.cell 3, hx1.cell 4, hx1.cell 5⟩
  have hlt := (hx.below hb1).lt
  have HB := Lib.hid (below_then (below_new w _) hb1)
  clear hx hb1
  go_region_held3 (fun w' => w'.cell? ⟨w.heap.size, 0, none⟩ = some (.int .i64 6) ∧ w'.cell? ⟨w.heap.size, 1, none⟩ = some (.int .i64 0) ∧ w'.cell? ⟨w.heap.size, 2, none⟩ = some (.int .i64 0) ∧ w'.cell? ⟨w.heap.size, 3, none⟩ = some (.int .i64 0) ∧ w'.cell? ⟨w.heap.size, 4, none⟩ = some (.int .i64 0) ∧ w'.cell? ⟨w.heap.size, 5, none⟩ = some (.int .i64 0))
    (first | go_keep | (exact held6 (by assumption) (by assumption) (by assumption)))
    (first
      | (go_at_call 146; refine (stmt_m6  _).mono ?_; rintro e w2 ⟨rfl, hb2⟩; have hb2' := drew_below hb2; have hlt2 := Nat.lt_of_lt_of_le hlt hb2'.size)
      | (go_at_call 96; refine (fields6  _ rfl _).mono ?_; rintro e w3 ⟨rfl, hb3⟩))
  have HB2 := Lib.hid (below_then HB.out (below_then (drew_below hb2) hb3))
  clear hb2 hb3 hb2'
  all_goals
    go_wp2
    go_ret2
    exact ⟨rfl, HB2.out⟩
/-- A statement as a value of its own type. -/
def ifSt (s : St) : Value :=
  if s.k = 1 then if1 s.v s.o s.a s.b else if s.k = 2 then if2 s.v s.n else if s.k = 3 then if3 s.o s.a s.b else if s.k = 4 then if4 s.o s.a s.b else if s.k = 5 then if5 s.n else if s.k = 6 then if6 else .nilIface
theorem eqSt_symm (s t : St) : eqSt s t = eqSt t s := by rw [Bool.eq_iff_iff]; simp [eqSt, eq_comm]
theorem valid_any (s : St) (w : World) : Calls Tryz.prog 85 #[stV s] w (BelO w (ifSt s) (stOk s)) := by
  obtain ⟨k, v, n, o, a, b⟩ := s
  rcases kinds k with rfl | rfl | rfl | rfl | rfl | rfl | ⟨h1, h2, h3, h4, h5, h6⟩
  · cases hqb : eqSt ⟨1, v, 0, o, a, b⟩ ⟨1, v, n, o, a, b⟩
    · have hn : stOk ⟨1, v, n, o, a, b⟩ = false := not_plain (t := ⟨1, v, 0, o, a, b⟩) rfl (by rw [eqSt_symm]; exact hqb)
      rw [hn]; exact valid1n v n o a b hqb w
    · obtain rfl : 0 = n := by simpa [eqSt] using hqb
      rw [stOk1]; exact valid1y v o a b w
  · cases hqb : eqSt ⟨2, v, n, 0, 0, 0⟩ ⟨2, v, n, o, a, b⟩
    · have hn : stOk ⟨2, v, n, o, a, b⟩ = false := not_plain (t := ⟨2, v, n, 0, 0, 0⟩) rfl (by rw [eqSt_symm]; exact hqb)
      rw [hn]; exact valid2n v n o a b hqb w
    · obtain ⟨rfl, rfl, rfl⟩ : 0 = o ∧ 0 = a ∧ 0 = b := by simpa [eqSt] using hqb
      rw [stOk2]; exact valid2y v n w
  · cases hqb : eqSt ⟨3, 0, 0, o, a, b⟩ ⟨3, v, n, o, a, b⟩
    · have hn : stOk ⟨3, v, n, o, a, b⟩ = false := not_plain (t := ⟨3, 0, 0, o, a, b⟩) rfl (by rw [eqSt_symm]; exact hqb)
      rw [hn]; exact valid3n v n o a b hqb w
    · obtain ⟨rfl, rfl⟩ : 0 = v ∧ 0 = n := by simpa [eqSt] using hqb
      rw [stOk3]; exact valid3y o a b w
  · cases hqb : eqSt ⟨4, 0, 0, o, a, b⟩ ⟨4, v, n, o, a, b⟩
    · have hn : stOk ⟨4, v, n, o, a, b⟩ = false := not_plain (t := ⟨4, 0, 0, o, a, b⟩) rfl (by rw [eqSt_symm]; exact hqb)
      rw [hn]; exact valid4n v n o a b hqb w
    · obtain ⟨rfl, rfl⟩ : 0 = v ∧ 0 = n := by simpa [eqSt] using hqb
      rw [stOk4]; exact valid4y o a b w
  · cases hqb : eqSt ⟨5, 0, n, 0, 0, 0⟩ ⟨5, v, n, o, a, b⟩
    · have hn : stOk ⟨5, v, n, o, a, b⟩ = false := not_plain (t := ⟨5, 0, n, 0, 0, 0⟩) rfl (by rw [eqSt_symm]; exact hqb)
      rw [hn]; exact valid5n v n o a b hqb w
    · obtain ⟨rfl, rfl, rfl, rfl⟩ : 0 = v ∧ 0 = o ∧ 0 = a ∧ 0 = b := by simpa [eqSt] using hqb
      rw [stOk5]; exact valid5y n w
  · cases hqb : eqSt ⟨6, 0, 0, 0, 0, 0⟩ ⟨6, v, n, o, a, b⟩
    · have hn : stOk ⟨6, v, n, o, a, b⟩ = false := not_plain (t := ⟨6, 0, 0, 0, 0, 0⟩) rfl (by rw [eqSt_symm]; exact hqb)
      rw [hn]; exact valid6n v n o a b hqb w
    · obtain ⟨rfl, rfl, rfl, rfl, rfl⟩ : 0 = v ∧ 0 = n ∧ 0 = o ∧ 0 = a ∧ 0 = b := by simpa [eqSt] using hqb
      rw [stOk6]; exact valid6y  w
  · rw [stOk_other h1 h2 h3 h4 h5 h6]; exact valid7 k v n o a b h1 h2 h3 h4 h5 h6 w
theorem impl_stmtok (s : St) (r : Bool) (hr : stOk s = r) (w : World) : Calls Tryz.prog 72 #[stV s] w (BelB w r) := by
  subst hr
  have H := Lib.hid (valid_any s)
  go_enter Tryz.func72, Tryz.ntmps72
  go_wp2_with (go_at_call 85; refine (H.out _).mono ?_; rintro e w1 ⟨rfl, hb1⟩)
  have HB := Lib.hid (below_then (below_new w _) hb1)
  clear hb1
  go_wp2
  go_ret
  exact ⟨rfl, HB.out⟩
end Go.Proofs.YtlicadaecfgklaaGreat.stm
