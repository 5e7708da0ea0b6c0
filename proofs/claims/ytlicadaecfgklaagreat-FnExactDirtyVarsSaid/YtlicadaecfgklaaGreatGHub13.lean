/- Several texts in one: StmW. -/
import Derived.Test.YtlicadaecfgklaaGreatGHub2

/- Chapter 4's StmtOk of the model: what the plain function says, for every statement; nothing that was there is written. -/
namespace Go.Proofs.YtlicadaecfgklaaGreat.stm
open Go.ChangeShapes Go.WideShapes Go.ChangeAt Go.RowKit Go.Proofs.YtlicadaecfgklaaGreat.row Go.Proofs.YtlicadaecfgklaaGreat.val Go.Proofs.YtlicadaecfgklaaGreat.expr

set_option maxHeartbeats 1000000 in
theorem spec_stmtok1n (v n o a b : Int) (hqb : eqSt ⟨1, v, n, o, a, b⟩ ⟨1, v, 0, o, a, b⟩ = false) (w : World) : Calls Tryz.prog 60 #[stV ⟨1, v, n, o, a, b⟩] w (BelB w false) := by
  have hp : Hid (plain ⟨1, v, n, o, a, b⟩ = ⟨1, v, 0, o, a, b⟩) := rfl
  have hq := run_eqSt ⟨1, v, n, o, a, b⟩ ⟨1, v, 0, o, a, b⟩
  go_enter Tryz.func60, Tryz.ntmps60
  go_wp2
  go_region_held3 (fun w' => w'.cell? ⟨w.heap.size, 0, none⟩ = some (.int .i64 1) ∧ w'.cell? ⟨w.heap.size, 1, none⟩ = some (.int .i64 v) ∧ w'.cell? ⟨w.heap.size, 2, none⟩ = some (.int .i64 n) ∧ w'.cell? ⟨w.heap.size, 3, none⟩ = some (.int .i64 o) ∧ w'.cell? ⟨w.heap.size, 4, none⟩ = some (.int .i64 a) ∧ w'.cell? ⟨w.heap.size, 5, none⟩ = some (.int .i64 b))
    (first | go_keep | (exact held6 (by assumption) (by simp) (by assumption)))
    (first | (go_at_call 81; refine (spec_plain ⟨1, v, n, o, a, b⟩ _).mono ?_; rw [hp.out]; rintro e w1 ⟨rfl, hb1⟩))
  have HB := Lib.hid (below_then (below_new w _) (drew_below hb1))
  clear hb1
  go_wp2
  go_ret
  exact ⟨rfl, HB.out⟩
set_option maxHeartbeats 2000000 in
theorem spec_stmtok1y (v o a b : Int) (w : World) : Calls Tryz.prog 60 #[stV ⟨1, v, 0, o, a, b⟩] w (BelB w (stOk ⟨1, v, 0, o, a, b⟩)) := by
  cases hv : varOk v <;> cases he : exprOk o a b
  all_goals
    have HE := Lib.hid (stOk1 v o a b)
    rw [hv, he] at HE
    have HV := Lib.hid (show (decide (0 ≤ v) && decide (v ≤ 7)) = _ from hv)
    clear hv
    have hp : Hid (plain ⟨1, v, 0, o, a, b⟩ = ⟨1, v, 0, o, a, b⟩) := rfl
    have hqb : eqSt ⟨1, v, 0, o, a, b⟩ ⟨1, v, 0, o, a, b⟩ = true := by simp [eqSt]
    have hq := run_eqSt ⟨1, v, 0, o, a, b⟩ ⟨1, v, 0, o, a, b⟩
    go_enter Tryz.func60, Tryz.ntmps60
    go_wp2
    go_region_held3 (fun w' => w'.cell? ⟨w.heap.size, 0, none⟩ = some (.int .i64 1) ∧ w'.cell? ⟨w.heap.size, 1, none⟩ = some (.int .i64 v) ∧ w'.cell? ⟨w.heap.size, 2, none⟩ = some (.int .i64 0) ∧ w'.cell? ⟨w.heap.size, 3, none⟩ = some (.int .i64 o) ∧ w'.cell? ⟨w.heap.size, 4, none⟩ = some (.int .i64 a) ∧ w'.cell? ⟨w.heap.size, 5, none⟩ = some (.int .i64 b))
      (first | go_keep | (exact held6 (by assumption) (by simp) (by assumption)))
      (first | (go_at_call 81; refine (spec_plain ⟨1, v, 0, o, a, b⟩ _).mono ?_; rw [hp.out]; rintro e w1 ⟨rfl, hb1⟩))
    have HB := Lib.hid (below_then (below_new w _) (drew_below hb1))
    clear hb1
    go_wp2_with (first
      | (go_at_call 31; (with_reducible refine (in_any v 0 7 _ HV.out _).mono ?_); rintro e w2 ⟨rfl, rfl⟩)
      | (go_at_call 59; refine (spec_exprok _ _ _ _ he _).mono ?_; rintro e w3 ⟨rfl, hb3⟩))
    go_ret
    first
      | exact ⟨by rw [HE.out]; rfl, HB.out⟩
      | exact ⟨by rw [HE.out]; rfl, below_then HB.out hb3⟩
set_option maxHeartbeats 1000000 in
theorem spec_stmtok2n (v n o a b : Int) (hqb : eqSt ⟨2, v, n, o, a, b⟩ ⟨2, v, n, 0, 0, 0⟩ = false) (w : World) : Calls Tryz.prog 60 #[stV ⟨2, v, n, o, a, b⟩] w (BelB w false) := by
  have hp : Hid (plain ⟨2, v, n, o, a, b⟩ = ⟨2, v, n, 0, 0, 0⟩) := rfl
  have hq := run_eqSt ⟨2, v, n, o, a, b⟩ ⟨2, v, n, 0, 0, 0⟩
  go_enter Tryz.func60, Tryz.ntmps60
  go_wp2
  go_region_held3 (fun w' => w'.cell? ⟨w.heap.size, 0, none⟩ = some (.int .i64 2) ∧ w'.cell? ⟨w.heap.size, 1, none⟩ = some (.int .i64 v) ∧ w'.cell? ⟨w.heap.size, 2, none⟩ = some (.int .i64 n) ∧ w'.cell? ⟨w.heap.size, 3, none⟩ = some (.int .i64 o) ∧ w'.cell? ⟨w.heap.size, 4, none⟩ = some (.int .i64 a) ∧ w'.cell? ⟨w.heap.size, 5, none⟩ = some (.int .i64 b))
    (first | go_keep | (exact held6 (by assumption) (by simp) (by assumption)))
    (first | (go_at_call 81; refine (spec_plain ⟨2, v, n, o, a, b⟩ _).mono ?_; rw [hp.out]; rintro e w1 ⟨rfl, hb1⟩))
  have HB := Lib.hid (below_then (below_new w _) (drew_below hb1))
  clear hb1
  go_wp2
  go_ret
  exact ⟨rfl, HB.out⟩
set_option maxHeartbeats 2000000 in
theorem spec_stmtok2y (v n : Int) (w : World) : Calls Tryz.prog 60 #[stV ⟨2, v, n, 0, 0, 0⟩] w (BelB w (stOk ⟨2, v, n, 0, 0, 0⟩)) := by
  cases hv : varOk v <;> cases he : (decide (0 ≤ n) && decide (n ≤ 3))
  all_goals
    have HE := Lib.hid (stOk2 v n)
    rw [hv, he] at HE
    have HV := Lib.hid (show (decide (0 ≤ v) && decide (v ≤ 7)) = _ from hv)
    clear hv
    have hp : Hid (plain ⟨2, v, n, 0, 0, 0⟩ = ⟨2, v, n, 0, 0, 0⟩) := rfl
    have hqb : eqSt ⟨2, v, n, 0, 0, 0⟩ ⟨2, v, n, 0, 0, 0⟩ = true := by simp [eqSt]
    have hq := run_eqSt ⟨2, v, n, 0, 0, 0⟩ ⟨2, v, n, 0, 0, 0⟩
    go_enter Tryz.func60, Tryz.ntmps60
    go_wp2
    go_region_held3 (fun w' => w'.cell? ⟨w.heap.size, 0, none⟩ = some (.int .i64 2) ∧ w'.cell? ⟨w.heap.size, 1, none⟩ = some (.int .i64 v) ∧ w'.cell? ⟨w.heap.size, 2, none⟩ = some (.int .i64 n) ∧ w'.cell? ⟨w.heap.size, 3, none⟩ = some (.int .i64 0) ∧ w'.cell? ⟨w.heap.size, 4, none⟩ = some (.int .i64 0) ∧ w'.cell? ⟨w.heap.size, 5, none⟩ = some (.int .i64 0))
      (first | go_keep | (exact held6 (by assumption) (by simp) (by assumption)))
      (first | (go_at_call 81; refine (spec_plain ⟨2, v, n, 0, 0, 0⟩ _).mono ?_; rw [hp.out]; rintro e w1 ⟨rfl, hb1⟩))
    have HB := Lib.hid (below_then (below_new w _) (drew_below hb1))
    clear hb1
    go_wp2_with (first
      | (go_at_call 31; (with_reducible refine (in_any v 0 7 _ HV.out _).mono ?_); rintro e w2 ⟨rfl, rfl⟩)
      | (go_at_call 31; (with_reducible refine (in_any n 0 3 _ he _).mono ?_); rintro e w2 ⟨rfl, rfl⟩))
    go_ret
    first
      | exact ⟨by rw [HE.out]; rfl, HB.out⟩
      | exact ⟨by rw [HE.out]; rfl, below_then HB.out hb3⟩
set_option maxHeartbeats 1000000 in
theorem spec_stmtok3n (v n o a b : Int) (hqb : eqSt ⟨3, v, n, o, a, b⟩ ⟨3, 0, 0, o, a, b⟩ = false) (w : World) : Calls Tryz.prog 60 #[stV ⟨3, v, n, o, a, b⟩] w (BelB w false) := by
  have hp : Hid (plain ⟨3, v, n, o, a, b⟩ = ⟨3, 0, 0, o, a, b⟩) := rfl
  have hq := run_eqSt ⟨3, v, n, o, a, b⟩ ⟨3, 0, 0, o, a, b⟩
  go_enter Tryz.func60, Tryz.ntmps60
  go_wp2
  go_region_held3 (fun w' => w'.cell? ⟨w.heap.size, 0, none⟩ = some (.int .i64 3) ∧ w'.cell? ⟨w.heap.size, 1, none⟩ = some (.int .i64 v) ∧ w'.cell? ⟨w.heap.size, 2, none⟩ = some (.int .i64 n) ∧ w'.cell? ⟨w.heap.size, 3, none⟩ = some (.int .i64 o) ∧ w'.cell? ⟨w.heap.size, 4, none⟩ = some (.int .i64 a) ∧ w'.cell? ⟨w.heap.size, 5, none⟩ = some (.int .i64 b))
    (first | go_keep | (exact held6 (by assumption) (by simp) (by assumption)))
    (first | (go_at_call 81; refine (spec_plain ⟨3, v, n, o, a, b⟩ _).mono ?_; rw [hp.out]; rintro e w1 ⟨rfl, hb1⟩))
  have HB := Lib.hid (below_then (below_new w _) (drew_below hb1))
  clear hb1
  go_wp2
  go_ret
  exact ⟨rfl, HB.out⟩
set_option maxHeartbeats 2000000 in
theorem spec_stmtok3y (o a b : Int) (w : World) : Calls Tryz.prog 60 #[stV ⟨3, 0, 0, o, a, b⟩] w (BelB w (stOk ⟨3, 0, 0, o, a, b⟩)) := by
  cases he : exprOk o a b
  all_goals
    have HE := Lib.hid (stOk3 o a b)
    rw [he] at HE
    have hp : Hid (plain ⟨3, 0, 0, o, a, b⟩ = ⟨3, 0, 0, o, a, b⟩) := rfl
    have hqb : eqSt ⟨3, 0, 0, o, a, b⟩ ⟨3, 0, 0, o, a, b⟩ = true := by simp [eqSt]
    have hq := run_eqSt ⟨3, 0, 0, o, a, b⟩ ⟨3, 0, 0, o, a, b⟩
    go_enter Tryz.func60, Tryz.ntmps60
    go_wp2
    go_region_held3 (fun w' => w'.cell? ⟨w.heap.size, 0, none⟩ = some (.int .i64 3) ∧ w'.cell? ⟨w.heap.size, 1, none⟩ = some (.int .i64 0) ∧ w'.cell? ⟨w.heap.size, 2, none⟩ = some (.int .i64 0) ∧ w'.cell? ⟨w.heap.size, 3, none⟩ = some (.int .i64 o) ∧ w'.cell? ⟨w.heap.size, 4, none⟩ = some (.int .i64 a) ∧ w'.cell? ⟨w.heap.size, 5, none⟩ = some (.int .i64 b))
      (first | go_keep | (exact held6 (by assumption) (by simp) (by assumption)))
      (first | (go_at_call 81; refine (spec_plain ⟨3, 0, 0, o, a, b⟩ _).mono ?_; rw [hp.out]; rintro e w1 ⟨rfl, hb1⟩))
    have HB := Lib.hid (below_then (below_new w _) (drew_below hb1))
    clear hb1
    go_wp2_with (first
      | (go_at_call 59; refine (spec_exprok _ _ _ _ he _).mono ?_; rintro e w3 ⟨rfl, hb3⟩))
    go_ret
    first
      | exact ⟨by rw [HE.out]; rfl, HB.out⟩
      | exact ⟨by rw [HE.out]; rfl, below_then HB.out hb3⟩
set_option maxHeartbeats 1000000 in
theorem spec_stmtok4n (v n o a b : Int) (hqb : eqSt ⟨4, v, n, o, a, b⟩ ⟨4, 0, 0, o, a, b⟩ = false) (w : World) : Calls Tryz.prog 60 #[stV ⟨4, v, n, o, a, b⟩] w (BelB w false) := by
  have hp : Hid (plain ⟨4, v, n, o, a, b⟩ = ⟨4, 0, 0, o, a, b⟩) := rfl
  have hq := run_eqSt ⟨4, v, n, o, a, b⟩ ⟨4, 0, 0, o, a, b⟩
  go_enter Tryz.func60, Tryz.ntmps60
  go_wp2
  go_region_held3 (fun w' => w'.cell? ⟨w.heap.size, 0, none⟩ = some (.int .i64 4) ∧ w'.cell? ⟨w.heap.size, 1, none⟩ = some (.int .i64 v) ∧ w'.cell? ⟨w.heap.size, 2, none⟩ = some (.int .i64 n) ∧ w'.cell? ⟨w.heap.size, 3, none⟩ = some (.int .i64 o) ∧ w'.cell? ⟨w.heap.size, 4, none⟩ = some (.int .i64 a) ∧ w'.cell? ⟨w.heap.size, 5, none⟩ = some (.int .i64 b))
    (first | go_keep | (exact held6 (by assumption) (by simp) (by assumption)))
    (first | (go_at_call 81; refine (spec_plain ⟨4, v, n, o, a, b⟩ _).mono ?_; rw [hp.out]; rintro e w1 ⟨rfl, hb1⟩))
  have HB := Lib.hid (below_then (below_new w _) (drew_below hb1))
  clear hb1
  go_wp2
  go_ret
  exact ⟨rfl, HB.out⟩
set_option maxHeartbeats 2000000 in
theorem spec_stmtok4y (o a b : Int) (w : World) : Calls Tryz.prog 60 #[stV ⟨4, 0, 0, o, a, b⟩] w (BelB w (stOk ⟨4, 0, 0, o, a, b⟩)) := by
  cases he : exprOk o a b
  all_goals
    have HE := Lib.hid (stOk4 o a b)
    rw [he] at HE
    have hp : Hid (plain ⟨4, 0, 0, o, a, b⟩ = ⟨4, 0, 0, o, a, b⟩) := rfl
    have hqb : eqSt ⟨4, 0, 0, o, a, b⟩ ⟨4, 0, 0, o, a, b⟩ = true := by simp [eqSt]
    have hq := run_eqSt ⟨4, 0, 0, o, a, b⟩ ⟨4, 0, 0, o, a, b⟩
    go_enter Tryz.func60, Tryz.ntmps60
    go_wp2
    go_region_held3 (fun w' => w'.cell? ⟨w.heap.size, 0, none⟩ = some (.int .i64 4) ∧ w'.cell? ⟨w.heap.size, 1, none⟩ = some (.int .i64 0) ∧ w'.cell? ⟨w.heap.size, 2, none⟩ = some (.int .i64 0) ∧ w'.cell? ⟨w.heap.size, 3, none⟩ = some (.int .i64 o) ∧ w'.cell? ⟨w.heap.size, 4, none⟩ = some (.int .i64 a) ∧ w'.cell? ⟨w.heap.size, 5, none⟩ = some (.int .i64 b))
      (first | go_keep | (exact held6 (by assumption) (by simp) (by assumption)))
      (first | (go_at_call 81; refine (spec_plain ⟨4, 0, 0, o, a, b⟩ _).mono ?_; rw [hp.out]; rintro e w1 ⟨rfl, hb1⟩))
    have HB := Lib.hid (below_then (below_new w _) (drew_below hb1))
    clear hb1
    go_wp2_with (first
      | (go_at_call 59; refine (spec_exprok _ _ _ _ he _).mono ?_; rintro e w3 ⟨rfl, hb3⟩))
    go_ret
    first
      | exact ⟨by rw [HE.out]; rfl, HB.out⟩
      | exact ⟨by rw [HE.out]; rfl, below_then HB.out hb3⟩
set_option maxHeartbeats 1000000 in
theorem spec_stmtok5n (v n o a b : Int) (hqb : eqSt ⟨5, v, n, o, a, b⟩ ⟨5, 0, n, 0, 0, 0⟩ = false) (w : World) : Calls Tryz.prog 60 #[stV ⟨5, v, n, o, a, b⟩] w (BelB w false) := by
  have hp : Hid (plain ⟨5, v, n, o, a, b⟩ = ⟨5, 0, n, 0, 0, 0⟩) := rfl
  have hq := run_eqSt ⟨5, v, n, o, a, b⟩ ⟨5, 0, n, 0, 0, 0⟩
  go_enter Tryz.func60, Tryz.ntmps60
  go_wp2
  go_region_held3 (fun w' => w'.cell? ⟨w.heap.size, 0, none⟩ = some (.int .i64 5) ∧ w'.cell? ⟨w.heap.size, 1, none⟩ = some (.int .i64 v) ∧ w'.cell? ⟨w.heap.size, 2, none⟩ = some (.int .i64 n) ∧ w'.cell? ⟨w.heap.size, 3, none⟩ = some (.int .i64 o) ∧ w'.cell? ⟨w.heap.size, 4, none⟩ = some (.int .i64 a) ∧ w'.cell? ⟨w.heap.size, 5, none⟩ = some (.int .i64 b))
    (first | go_keep | (exact held6 (by assumption) (by simp) (by assumption)))
    (first | (go_at_call 81; refine (spec_plain ⟨5, v, n, o, a, b⟩ _).mono ?_; rw [hp.out]; rintro e w1 ⟨rfl, hb1⟩))
  have HB := Lib.hid (below_then (below_new w _) (drew_below hb1))
  clear hb1
  go_wp2
  go_ret
  exact ⟨rfl, HB.out⟩
set_option maxHeartbeats 2000000 in
theorem spec_stmtok5y (n : Int) (w : World) : Calls Tryz.prog 60 #[stV ⟨5, 0, n, 0, 0, 0⟩] w (BelB w (stOk ⟨5, 0, n, 0, 0, 0⟩)) := by
  cases he : (decide (1 ≤ n) && decide (n ≤ 5))
  all_goals
    have HE := Lib.hid (stOk5 n)
    rw [he] at HE
    have hp : Hid (plain ⟨5, 0, n, 0, 0, 0⟩ = ⟨5, 0, n, 0, 0, 0⟩) := rfl
    have hqb : eqSt ⟨5, 0, n, 0, 0, 0⟩ ⟨5, 0, n, 0, 0, 0⟩ = true := by simp [eqSt]
    have hq := run_eqSt ⟨5, 0, n, 0, 0, 0⟩ ⟨5, 0, n, 0, 0, 0⟩
    go_enter Tryz.func60, Tryz.ntmps60
    go_wp2
    go_region_held3 (fun w' => w'.cell? ⟨w.heap.size, 0, none⟩ = some (.int .i64 5) ∧ w'.cell? ⟨w.heap.size, 1, none⟩ = some (.int .i64 0) ∧ w'.cell? ⟨w.heap.size, 2, none⟩ = some (.int .i64 n) ∧ w'.cell? ⟨w.heap.size, 3, none⟩ = some (.int .i64 0) ∧ w'.cell? ⟨w.heap.size, 4, none⟩ = some (.int .i64 0) ∧ w'.cell? ⟨w.heap.size, 5, none⟩ = some (.int .i64 0))
      (first | go_keep | (exact held6 (by assumption) (by simp) (by assumption)))
      (first | (go_at_call 81; refine (spec_plain ⟨5, 0, n, 0, 0, 0⟩ _).mono ?_; rw [hp.out]; rintro e w1 ⟨rfl, hb1⟩))
    have HB := Lib.hid (below_then (below_new w _) (drew_below hb1))
    clear hb1
    go_wp2_with (first
      | (go_at_call 31; (with_reducible refine (in_any n 1 5 _ he _).mono ?_); rintro e w2 ⟨rfl, rfl⟩))
    go_ret
    first
      | exact ⟨by rw [HE.out]; rfl, HB.out⟩
      | exact ⟨by rw [HE.out]; rfl, below_then HB.out hb3⟩
set_option maxHeartbeats 1000000 in
theorem spec_stmtok6n (v n o a b : Int) (hqb : eqSt ⟨6, v, n, o, a, b⟩ ⟨6, 0, 0, 0, 0, 0⟩ = false) (w : World) : Calls Tryz.prog 60 #[stV ⟨6, v, n, o, a, b⟩] w (BelB w false) := by
  have hp : Hid (plain ⟨6, v, n, o, a, b⟩ = ⟨6, 0, 0, 0, 0, 0⟩) := rfl
  have hq := run_eqSt ⟨6, v, n, o, a, b⟩ ⟨6, 0, 0, 0, 0, 0⟩
  go_enter Tryz.func60, Tryz.ntmps60
  go_wp2
  go_region_held3 (fun w' => w'.cell? ⟨w.heap.size, 0, none⟩ = some (.int .i64 6) ∧ w'.cell? ⟨w.heap.size, 1, none⟩ = some (.int .i64 v) ∧ w'.cell? ⟨w.heap.size, 2, none⟩ = some (.int .i64 n) ∧ w'.cell? ⟨w.heap.size, 3, none⟩ = some (.int .i64 o) ∧ w'.cell? ⟨w.heap.size, 4, none⟩ = some (.int .i64 a) ∧ w'.cell? ⟨w.heap.size, 5, none⟩ = some (.int .i64 b))
    (first | go_keep | (exact held6 (by assumption) (by simp) (by assumption)))
    (first | (go_at_call 81; refine (spec_plain ⟨6, v, n, o, a, b⟩ _).mono ?_; rw [hp.out]; rintro e w1 ⟨rfl, hb1⟩))
  have HB := Lib.hid (below_then (below_new w _) (drew_below hb1))
  clear hb1
  go_wp2
  go_ret
  exact ⟨rfl, HB.out⟩
set_option maxHeartbeats 2000000 in
theorem spec_stmtok6y (w : World) : Calls Tryz.prog 60 #[stV ⟨6, 0, 0, 0, 0, 0⟩] w (BelB w (stOk ⟨6, 0, 0, 0, 0, 0⟩)) := by
  have HE := Lib.hid stOk6
  have hp : Hid (plain ⟨6, 0, 0, 0, 0, 0⟩ = ⟨6, 0, 0, 0, 0, 0⟩) := rfl
  have hqb : eqSt ⟨6, 0, 0, 0, 0, 0⟩ ⟨6, 0, 0, 0, 0, 0⟩ = true := by simp [eqSt]
  have hq := run_eqSt ⟨6, 0, 0, 0, 0, 0⟩ ⟨6, 0, 0, 0, 0, 0⟩
  go_enter Tryz.func60, Tryz.ntmps60
  go_wp2
  go_region_held3 (fun w' => w'.cell? ⟨w.heap.size, 0, none⟩ = some (.int .i64 6) ∧ w'.cell? ⟨w.heap.size, 1, none⟩ = some (.int .i64 0) ∧ w'.cell? ⟨w.heap.size, 2, none⟩ = some (.int .i64 0) ∧ w'.cell? ⟨w.heap.size, 3, none⟩ = some (.int .i64 0) ∧ w'.cell? ⟨w.heap.size, 4, none⟩ = some (.int .i64 0) ∧ w'.cell? ⟨w.heap.size, 5, none⟩ = some (.int .i64 0))
    (first | go_keep | (exact held6 (by assumption) (by simp) (by assumption)))
    (first | (go_at_call 81; refine (spec_plain ⟨6, 0, 0, 0, 0, 0⟩ _).mono ?_; rw [hp.out]; rintro e w1 ⟨rfl, hb1⟩))
  have HB := Lib.hid (below_then (below_new w _) (drew_below hb1))
  clear hb1
  go_wp2
  go_ret
  first
    | exact ⟨by rw [HE.out]; rfl, HB.out⟩
    | exact ⟨by rw [HE.out]; rfl, below_then HB.out hb3⟩
set_option maxHeartbeats 2000000 in
theorem spec_stmtok7 (k v n o a b : Int) (h1 : (k == 1) = false) (h2 : (k == 2) = false) (h3 : (k == 3) = false) (h4 : (k == 4) = false) (h5 : (k == 5) = false) (h6 : (k == 6) = false) (w : World) : Calls Tryz.prog 60 #[stV ⟨k, v, n, o, a, b⟩] w (BelB w false) := by
  have hp := Lib.hid (plain_other (v := v) (n := n) (o := o) (a := a) (b := b) h1 h2 h3 h4 h5)
  have hq := run_eqSt ⟨k, v, n, o, a, b⟩ ⟨k, 0, 0, 0, 0, 0⟩
  cases hqb : eqSt ⟨k, v, n, o, a, b⟩ ⟨k, 0, 0, 0, 0, 0⟩
  all_goals
    go_enter Tryz.func60, Tryz.ntmps60
    go_wp2
    go_region_held3 (fun w' => w'.cell? ⟨w.heap.size, 0, none⟩ = some (.int .i64 k) ∧ w'.cell? ⟨w.heap.size, 1, none⟩ = some (.int .i64 v) ∧ w'.cell? ⟨w.heap.size, 2, none⟩ = some (.int .i64 n) ∧ w'.cell? ⟨w.heap.size, 3, none⟩ = some (.int .i64 o) ∧ w'.cell? ⟨w.heap.size, 4, none⟩ = some (.int .i64 a) ∧ w'.cell? ⟨w.heap.size, 5, none⟩ = some (.int .i64 b))
      (first | go_keep | (exact held6 (by assumption) (by simp) (by assumption)))
      (first | (go_at_call 81; refine (spec_plain ⟨k, v, n, o, a, b⟩ _).mono ?_; rw [hp.out]; rintro e w1 ⟨rfl, hb1⟩))
    have HB := Lib.hid (below_then (below_new w _) (drew_below hb1))
    clear hb1
    go_wp2
    go_ret
    exact ⟨rfl, HB.out⟩
theorem spec_stmtok (s : St) (r : Bool) (hr : stOk s = r) (w : World) : Calls Tryz.prog 60 #[stV s] w (BelB w r) := by
  subst hr
  obtain ⟨k, v, n, o, a, b⟩ := s
  rcases kinds k with rfl | rfl | rfl | rfl | rfl | rfl | ⟨h1, h2, h3, h4, h5, h6⟩
  · cases hqb : eqSt ⟨1, v, n, o, a, b⟩ ⟨1, v, 0, o, a, b⟩
    · rw [not_plain rfl hqb]; exact spec_stmtok1n v n o a b hqb w
    · obtain rfl : n = 0 := by simpa [eqSt] using hqb
      exact spec_stmtok1y v o a b w
  · cases hqb : eqSt ⟨2, v, n, o, a, b⟩ ⟨2, v, n, 0, 0, 0⟩
    · rw [not_plain rfl hqb]; exact spec_stmtok2n v n o a b hqb w
    · obtain ⟨rfl, rfl, rfl⟩ : o = 0 ∧ a = 0 ∧ b = 0 := by simpa [eqSt] using hqb
      exact spec_stmtok2y v n w
  · cases hqb : eqSt ⟨3, v, n, o, a, b⟩ ⟨3, 0, 0, o, a, b⟩
    · rw [not_plain rfl hqb]; exact spec_stmtok3n v n o a b hqb w
    · obtain ⟨rfl, rfl⟩ : v = 0 ∧ n = 0 := by simpa [eqSt] using hqb
      exact spec_stmtok3y o a b w
  · cases hqb : eqSt ⟨4, v, n, o, a, b⟩ ⟨4, 0, 0, o, a, b⟩
    · rw [not_plain rfl hqb]; exact spec_stmtok4n v n o a b hqb w
    · obtain ⟨rfl, rfl⟩ : v = 0 ∧ n = 0 := by simpa [eqSt] using hqb
      exact spec_stmtok4y o a b w
  · cases hqb : eqSt ⟨5, v, n, o, a, b⟩ ⟨5, 0, n, 0, 0, 0⟩
    · rw [not_plain rfl hqb]; exact spec_stmtok5n v n o a b hqb w
    · obtain ⟨rfl, rfl, rfl, rfl⟩ : v = 0 ∧ o = 0 ∧ a = 0 ∧ b = 0 := by simpa [eqSt] using hqb
      exact spec_stmtok5y n w
  · cases hqb : eqSt ⟨6, v, n, o, a, b⟩ ⟨6, 0, 0, 0, 0, 0⟩
    · rw [not_plain rfl hqb]; exact spec_stmtok6n v n o a b hqb w
    · obtain ⟨rfl, rfl, rfl, rfl, rfl⟩ : v = 0 ∧ n = 0 ∧ o = 0 ∧ a = 0 ∧ b = 0 := by simpa [eqSt] using hqb
      exact spec_stmtok6y  w
  · rw [stOk_other h1 h2 h3 h4 h5 h6]; exact spec_stmtok7 k v n o a b h1 h2 h3 h4 h5 h6 w
end Go.Proofs.YtlicadaecfgklaaGreat.stm
